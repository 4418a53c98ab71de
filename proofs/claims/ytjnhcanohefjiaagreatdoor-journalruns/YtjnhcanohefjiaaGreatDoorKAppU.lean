/- The walks of pack.AppendUint, AppendInt, AppendText. -/
import Derived.Test.YtjnhcanohefjiaaGreatDoorKApp
import Derived.Room.AppendFits
namespace Go.Proofs.YtjnhcanohefjiaaGreatDoor
open Go.RowKit Go.Sort

/-- What a call that lays something hands back: a row of its own. -/
def Laid (w : World) (xs : List Nat) (e : Ending) (w' : World) : Prop :=
  ∃ g c, e = .returned (.slice (some ⟨g, 0, none⟩) xs.length c) ∧ Own w' w.heap.size (.slice (some ⟨g, 0, none⟩) xs.length c) xs ∧ Below w.heap.size w w'
set_option maxRecDepth 100000 in
set_option maxHeartbeats 1000000 in
theorem appU_ (a : Option Addr) (xs : List Nat) (c n l : Nat) (w : World) (hl : xs.length = l) (h : BytesIn w a xs) (hc : a = none → c = 0) (hn : n < 18446744073709551616) (hlim : xs.length ≤ 281474976710646) :
    Calls Tryz.prog 70 #[.slice a l c, .int .u64 n] w (Laid w (xs ++ enc n)) := by
  subst hl
  have hle := enc_le10 n hn
  have HL := Lib.hid (len_ n w hn)
  have HR := Lib.hid (room_ a xs c (enc n).length w h hc (by omega))
  have HY : Hid (∀ W g cap, Own W w.heap.size (.slice (some ⟨g, 0, none⟩) xs.length cap) xs → xs.length + (enc n).length ≤ cap → Below w.heap.size w W → Calls Tryz.prog 89 #[.slice (some ⟨g, 0, none⟩) xs.length cap, .int .u64 n] W fun e w' => e = .returned (.slice (some ⟨g, 0, none⟩) (xs ++ enc n).length cap) ∧ Own w' w.heap.size (.slice (some ⟨g, 0, none⟩) (xs ++ enc n).length cap) (xs ++ enc n) ∧ Below w.heap.size W w') :=
    fun W g cap h1 h2 h3 => lay_ g cap w.heap.size n xs W h1 hn h2 h3.size
  unfold Laid
  generalize hz : xs ++ enc n = zs at *
  generalize (enc n).length = k at *
  generalize xs.length = m at *
  clear h hc hz
  go_enter Tryz.func70, Tryz.ntmps70
  go_wp2_with fail
  refine HL.out.mono ?_
  rintro e w1 ⟨rfl, rfl⟩
  go_wp2_with fail
  refine HR.out.mono ?_
  rintro e w2 ⟨rfl, hO, hB⟩
  go_wp2_with fail
  refine (HY.out w2 _ _ hO (Nat.le_refl _) hB).mono ?_
  rintro e w3 ⟨rfl, hO3, hB3⟩
  go_wp2_with fail
  go_ret
  exact ⟨_, _, rfl, hO3, hB.trans hB3⟩
theorem strCells_vals (s : ByteArray) : Lib.strCells s = vals (sb s) := by
  unfold Lib.strCells vals sb
  rw [List.map_map]
  rfl
theorem own_text {w : World} {base g c n : Nat} {xs : List Nat} {s : ByteArray} (hn : xs.length = n) (h : w.ownsRow base 5 1 (.slice (some ⟨g, 0, none⟩) (n + s.size) c) (n + s.size) (vals xs ++ Lib.strCells s)) : Own w base (.slice (some ⟨g, 0, none⟩) (n + s.size) c) (xs ++ sb s) := by
  subst hn
  unfold Own
  rw [← vals_append, List.length_append, sb_length, ← strCells_vals]
  exact h
end Go.Proofs.YtjnhcanohefjiaaGreatDoor
