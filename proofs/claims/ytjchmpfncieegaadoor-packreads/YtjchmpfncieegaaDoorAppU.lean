/- The walks of pack.AppendUint, AppendInt, AppendText. -/
import Derived.Test.YtjchmpfncieegaaDoorApp
import Derived.Room.AppendFits
namespace Go.Proofs.YtjchmpfncieegaaDoor
open Go.RowKit Go.Sort

/-- What a call that lays something hands back: a row of its own. -/
def Laid (w : World) (xs : List Nat) (e : Ending) (w' : World) : Prop :=
  ∃ g c, e = .returned (.slice (some ⟨g, 0, none⟩) xs.length c) ∧ Own w' w.heap.size (.slice (some ⟨g, 0, none⟩) xs.length c) xs ∧ Below w.heap.size w w'

set_option maxRecDepth 100000 in
set_option maxHeartbeats 1000000 in
theorem appU_ (a : Option Addr) (xs : List Nat) (c n l : Nat) (w : World) (hl : xs.length = l) (h : BytesIn w a xs) (hc : a = none → c = 0) (hn : n < 18446744073709551616) (hlim : xs.length ≤ 281474976710646) :
    Calls Tryd.prog 20 #[.slice a l c, .int .u64 n] w (Laid w (xs ++ enc n)) := by
  subst hl
  have hle := enc_le10 n hn
  have HL := Lib.hid (len_ n w hn)
  have HR := Lib.hid (room_ a xs c (enc n).length w h hc (by omega))
  have HY : Hid (∀ W g cap, Own W w.heap.size (.slice (some ⟨g, 0, none⟩) xs.length cap) xs → xs.length + (enc n).length ≤ cap → Below w.heap.size w W → Calls Tryd.prog 24 #[.slice (some ⟨g, 0, none⟩) xs.length cap, .int .u64 n] W fun e w' => e = .returned (.slice (some ⟨g, 0, none⟩) (xs ++ enc n).length cap) ∧ Own w' w.heap.size (.slice (some ⟨g, 0, none⟩) (xs ++ enc n).length cap) (xs ++ enc n) ∧ Below w.heap.size W w') :=
    fun W g cap h1 h2 h3 => lay_ g cap w.heap.size n xs W h1 hn h2 h3.size
  unfold Laid
  generalize hz : xs ++ enc n = zs at *
  generalize (enc n).length = k at *
  generalize xs.length = m at *
  clear h hc hz
  go_enter Tryd.func20, Tryd.ntmps20
  go_wp2_with fail
  refine HL.out.mono ?_
  rintro e w1 ⟨rfl, rfl⟩
  go_wp2_with fail
  refine HR.out.mono ?_
  rintro e w2 ⟨rfl, hO, hB⟩
  go_wp2_with fail
  refine (HY.out w2 _ _ hO (Nat.le_refl _) hB).mono ?_
  rintro e w3 ⟨rfl, hO3, hB3⟩
  go_wp2_with fail
  go_ret
  exact ⟨_, _, rfl, hO3, hB.trans hB3⟩

theorem int_zz {n : Int} (h0 : -9223372036854775808 ≤ n) (h1 : n ≤ 9223372036854775807) : (zz n : Int) = if n < 0 then -2 * n - 1 else 2 * n := by
  unfold zz
  split <;> omega

set_option maxRecDepth 100000 in
set_option maxHeartbeats 1000000 in
theorem appI_ (a : Option Addr) (xs : List Nat) (c l : Nat) (n : Int) (w : World) (hl : xs.length = l) (h : BytesIn w a xs) (hc : a = none → c = 0) (h0 : -9223372036854775808 ≤ n) (h1 : n ≤ 9223372036854775807) (hlim : xs.length ≤ 281474976710646) :
    Calls Tryd.prog 15 #[.slice a l c, .int .i64 n] w (Laid w (xs ++ enc (zz n))) := by
  have HU := Lib.hid (appU_ a xs c (zz n) l w hl h hc (zz_lt n h0 h1) hlim)
  have hz := int_zz h0 h1
  generalize xs ++ enc (zz n) = es at *
  generalize zz n = z at *
  clear h hc hlim
  by_cases hneg : n < 0
  · rw [if_pos hneg] at hz
    have hnot := not64 n h0 h1
    go_enter Tryd.func15, Tryd.ntmps15
    go_wp2_with fail
    have e : IntKind.u64.wrap (IntKind.u64.wrap (2 * IntKind.u64.wrap (-n - 1)) + 1) = z := by simp only [IntKind.wrap_u64]; omega
    rw [e]
    refine HU.out.mono ?_
    rintro e w1 ⟨g, c1, rfl, h2, h3⟩
    go_wp2_with fail
    go_ret
    exact ⟨g, c1, rfl, h2, h3⟩
  · rw [if_neg hneg] at hz
    go_enter Tryd.func15, Tryd.ntmps15
    go_wp2_with fail
    rw [← hz]
    refine HU.out.mono ?_
    rintro e w1 ⟨g, c1, rfl, h2, h3⟩
    go_wp2_with fail
    go_ret
    exact ⟨g, c1, rfl, h2, h3⟩

end Go.Proofs.YtjchmpfncieegaaDoor
