/- The walks of pack.AppendUint, AppendInt, AppendText. -/
import Derived.Test.YtlldamgnfaikhaaDoorKApp
import Derived.Room.AppendFits
namespace Go.Proofs.YtlldamgnfaikhaaDoor
open Go.RowKit Go.Sort

/-- What a call that lays something hands back: a row of its own. -/
def Laid (w : World) (xs : List Nat) (e : Ending) (w' : World) : Prop :=
  ∃ g c, e = .returned (.slice (some ⟨g, 0, none⟩) xs.length c) ∧ Own w' w.heap.size (.slice (some ⟨g, 0, none⟩) xs.length c) xs ∧ Below w.heap.size w w'
set_option maxRecDepth 100000 in
set_option maxHeartbeats 1000000 in
theorem appU_ (a : Option Addr) (xs : List Nat) (c n l : Nat) (w : World) (hl : xs.length = l) (h : BytesIn w a xs) (hc : a = none → c = 0) (hn : n < 18446744073709551616) (hlim : xs.length ≤ 281474976710646) :
    Calls Tryd.prog 47 #[.slice a l c, .int .u64 n] w (Laid w (xs ++ enc n)) := by
  subst hl
  have hle := enc_le10 n hn
  have HL := Lib.hid (len_ n w hn)
  have HR := Lib.hid (room_ a xs c (enc n).length w h hc (by omega))
  have HY : Hid (∀ W g cap, Own W w.heap.size (.slice (some ⟨g, 0, none⟩) xs.length cap) xs → xs.length + (enc n).length ≤ cap → Below w.heap.size w W → Calls Tryd.prog 48 #[.slice (some ⟨g, 0, none⟩) xs.length cap, .int .u64 n] W fun e w' => e = .returned (.slice (some ⟨g, 0, none⟩) (xs ++ enc n).length cap) ∧ Own w' w.heap.size (.slice (some ⟨g, 0, none⟩) (xs ++ enc n).length cap) (xs ++ enc n) ∧ Below w.heap.size W w') :=
    fun W g cap h1 h2 h3 => play_ g cap w.heap.size n xs W h1 hn h2 h3.size
  unfold Laid
  generalize hz : xs ++ enc n = zs at *
  generalize (enc n).length = k at *
  generalize xs.length = m at *
  clear h hc hz
  go_enter Tryd.func47, Tryd.ntmps47
  go_wp2_with fail
  refine HL.out.mono ?_
  rintro e w1 ⟨rfl, rfl⟩
  go_wp2_with fail
  refine HR.out.mono ?_
  rintro e w2 ⟨rfl, hO, hB⟩
  go_wp2_with fail
  refine (HY.out w2 _ _ hO (Nat.le_refl _) hB).mono ?_
  rintro e w3 ⟨rfl, hO3, hB3⟩
  go_wp2_with fail
  go_ret
  exact ⟨_, _, rfl, hO3, hB.trans hB3⟩
theorem kstrCells_vals (s : ByteArray) : Lib.strCells s = vals (sb s) := by
  unfold Lib.strCells vals sb
  rw [List.map_map]
  rfl
theorem own_text {w : World} {base g c n : Nat} {xs : List Nat} {s : ByteArray} (hn : xs.length = n) (h : w.ownsRow base 5 1 (.slice (some ⟨g, 0, none⟩) (n + s.size) c) (n + s.size) (vals xs ++ Lib.strCells s)) : Own w base (.slice (some ⟨g, 0, none⟩) (n + s.size) c) (xs ++ sb s) := by
  subst hn
  unfold Own
  rw [← vals_append, List.length_append, sb_length, ← kstrCells_vals]
  exact h
set_option maxRecDepth 100000 in
set_option maxHeartbeats 1000000 in
theorem appT_ (a : Option Addr) (xs : List Nat) (c l : Nat) (s : ByteArray) (w : World) (hl : xs.length = l) (h : BytesIn w a xs) (hc : a = none → c = 0) (hlim : xs.length + s.size ≤ 281474976710646) :
    Calls Tryd.prog 31 #[.slice a l c, .string s] w (Laid w (xs ++ enc s.size ++ sb s)) := by
  subst hl
  obtain ⟨i0, hi, hz0, hz1, hz2⟩ := info_parts infoB
  have hle := enc_le10 s.size (by omega)
  have hpos := enc_pos s.size
  have HL := Lib.hid (len_ s.size w (by omega))
  have HR := Lib.hid (room_ a xs c ((enc s.size).length + s.size) w h hc (by omega))
  have HY : Hid (∀ W g cap, Own W w.heap.size (.slice (some ⟨g, 0, none⟩) xs.length cap) xs → xs.length + (enc s.size).length ≤ cap → Below w.heap.size w W → Calls Tryd.prog 48 #[.slice (some ⟨g, 0, none⟩) xs.length cap, .int .u64 (s.size : Nat)] W fun e w' => e = .returned (.slice (some ⟨g, 0, none⟩) (xs ++ enc s.size).length cap) ∧ Own w' w.heap.size (.slice (some ⟨g, 0, none⟩) (xs ++ enc s.size).length cap) (xs ++ enc s.size) ∧ Below w.heap.size W w') :=
    fun W g cap h1 h2 h3 => play_ g cap w.heap.size s.size xs W h1 (by omega) h2 h3.size
  unfold Laid
  have hzl : (xs ++ enc s.size).length ≤ xs.length + (enc s.size).length := Nat.le_of_eq (List.length_append ..)
  generalize hz : xs ++ enc s.size = zs at *
  have htl : (zs ++ sb s).length = zs.length + s.size := by rw [List.length_append, sb_length]
  rw [htl]
  generalize (enc s.size).length = k at *
  generalize hm : xs.length = m at *
  generalize hzz : zs.length = zl at *
  have HT : Hid (∀ (W : World) (base g cap : Nat), W.ownsRow base 5 1 (.slice (some ⟨g, 0, none⟩) (zl + s.size) cap) (zl + s.size) (vals zs ++ Lib.strCells s) → Own W base (.slice (some ⟨g, 0, none⟩) (zl + s.size) cap) (zs ++ sb s)) := fun W base g cap hh => own_text hzz hh
  have HW : Hid (∀ (W : World) (base g cap : Nat), Own W base (.slice (some ⟨g, 0, none⟩) zl cap) zs → W.ownsRow base 5 1 (.slice (some ⟨g, 0, none⟩) zl cap) zl (vals zs)) := fun W base g cap hh => by rw [← hzz]; rw [← hzz] at hh; exact hh
  generalize hsz : s.size = sl at *
  clear h hc hz hm hzz htl
  go_enter Tryd.func31, Tryd.ntmps31
  go_wp2_with fail
  refine HL.out.mono ?_
  rintro e w1 ⟨rfl, rfl⟩
  go_wp2_with fail
  rw [← Int.natCast_add]
  refine HR.out.mono ?_
  rintro e w2 ⟨rfl, hO, hB⟩
  go_wp2_with fail
  refine (HY.out w2 _ _ hO (by omega) hB).mono ?_
  rintro e w3 ⟨rfl, hO3, hB3⟩
  have HO3 := Lib.hid (HW.out _ _ _ _ hO3)
  have hb3 := hB.trans hB3
  have hg3 := (World.ownsRow.lt hO3 _ rfl).1
  have hs3 := hb3.size
  go_wp2_with (first
    | (at_builtin; refine Lib.wpList_append_fits_string _ rfl _ _ 26 9 rfl w1.heap.size 5 i0 Tryd.underlying26 Tryd.underlying9 hi hz1 _ _ _ _ rfl HO3.out s rfl (by omega) (by omega) ?_
       intro w4 hown hgrow
       have HO4 := Lib.hid (HT.out _ _ _ _ (by rw [hsz] at hown; exact hown))
       have hb4 := hb3.grown hgrow hs3 (fun k hk => by cases hk; exact hg3)
       clear hown hgrow)
    | go_in)
  go_ret
  exact ⟨_, _, rfl, HO4.out, hb4⟩
end Go.Proofs.YtlldamgnfaikhaaDoor
