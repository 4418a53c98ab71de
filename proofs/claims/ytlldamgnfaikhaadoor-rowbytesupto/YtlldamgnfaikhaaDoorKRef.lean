/- The walks of the document's Uints, Ints, Texts. -/
import Derived.Test.YtlldamgnfaikhaaDoorKAppU
namespace Go.Proofs.YtlldamgnfaikhaaDoor
open Go.RowKit Go.Sort

theorem own_some {w : World} {base : Nat} {v : Value} {xs : List Nat} (h : Own w base v xs) (hp : 0 < xs.length) : ∃ g c, v = .slice (some ⟨g, 0, none⟩) xs.length c ∧ Own w base (.slice (some ⟨g, 0, none⟩) xs.length c) xs := by
  have h' := h
  rcases h.2 with ⟨_, e⟩ | ⟨g, cap, cur, rfl, _, _, _, _, _, _⟩
  · omega
  · exact ⟨g, cap, rfl, h'⟩
theorem own_one (w : World) (base x : Nat) (hb : base ≤ w.heap.size) : Own (w.alloc (.cells #[.int .u8 (x : Int)] 5)) base (.slice (some ⟨w.heap.size, 0, none⟩) 1 1) [x] :=
  World.ownsRow_lit w #[.int .u8 (x : Int)] 1 hb (by decide) rfl
set_option maxRecDepth 100000 in
set_option maxHeartbeats 1000000 in
theorem uints_ : ∀ (n : Nat) (w : World), n < 18446744073709551616 → Calls Tryd.prog 34 #[.int .u64 n] w (Laid w (enc n)) := by
  obtain ⟨i0, hi, hz0, hz1, hz2⟩ := info_parts infoB
  intro n
  induction n using Nat.strongRecOn with
  | ind n ih =>
    intro w hn
    by_cases hs : n < 128
    · have h256 : (n : Int) % 256 = n := by omega
      have HO := Lib.hid (own_one w w.heap.size n (Nat.le_refl _))
      rw [enc_lt hs]
      clear ih
      go_enter Tryd.func34, Tryd.ntmps34
      go_wp2_with fail
      go_ret
      exact ⟨_, _, rfl, HO.out, (Below.refl _ _).alloc (Nat.le_refl _) _⟩
    · obtain ⟨y, hy⟩ : ∃ y, y = n % 128 + 128 := ⟨_, rfl⟩
      have hy1 : ((n : Int) % 128) % 256 = (n : Int) % 128 := by omega
      have hy2 : (n : Int) % 128 + 128 = (y : Int) := by omega
      have HO := Lib.hid (own_one w w.heap.size y (Nat.le_refl _))
      have HI := Lib.hid (ih (n / 128) (by omega) (w.alloc (.cells #[.int .u8 (y : Int)] 5)) (by omega))
      have hel := enc_le10 (n / 128) (by omega)
      have hep := enc_pos (n / 128)
      have e : enc n = [y] ++ enc (n / 128) := by rw [enc_ge (by omega), hy]; rfl
      rw [e]
      have hone := one_one .u8 (y : Int)
      clear ih e hy
      generalize enc (n / 128) = es at *
      generalize hel2 : es.length = el at *
      go_enter Tryd.func34, Tryd.ntmps34
      go_wp2_with fail
      have hq : (n : Int) / 128 = ((n / 128 : Nat) : Int) := by omega
      rw [hq]
      refine HI.out.mono ?_
      rintro e w2 ⟨g, c, rfl, hO2, hb2⟩
      have hrow1 : w2.ownsRow w.heap.size 5 1 (.slice (some ⟨w.heap.size, 0, none⟩) 1 1) 1 (vals [y]) := HO.out.on hb2
      have HR1 := Lib.hid hrow1
      have HN := Lib.hid hO2.cells.2.1.news
      have hb3 : Below w.heap.size w w2 := (((Below.refl w.heap.size w).alloc (Nat.le_refl _) _)).trans (hb2.mono (by simp))
      have Hb3 := Lib.hid hb3
      have hvl : (vals es).length = el := by rw [vals_len, hel2]
      rw [hel2]
      clear hO2 hb2 hb3 hrow1 HI HO hq hy1 hy2 hone
      have hsz := Hb3.out.size
      go_wp2_with (first
        | (at_builtin; refine wpList_append_own _ rfl _ _ 26 rfl w.heap.size 5 i0 (.int .u8 0) 1 1 Tryd.underlying26 hi hz0 hz1 hz2 rfl (by decide) _ 1 (vals [y]) rfl HR1.out ⟨g, 0, none⟩ el c (vals es) rfl (by omega) HN.out (vals_one es) (by unfold maxLen; omega) (by omega) (by omega) ?_
           intro v' w3 hown hgrow _)
        | go_in)
      have hO4 := own_join (xs := [y]) rfl hel2 hown
      obtain ⟨g', c', rfl, hO5⟩ := own_some hO4 (by simp)
      have hb5 := Hb3.out.grown hgrow Hb3.out.size (fun k hk => by cases hk; exact Nat.le_refl _)
      go_wp2_with fail
      go_ret
      exact ⟨g', c', rfl, hO5, hb5⟩
set_option maxRecDepth 100000 in
set_option maxHeartbeats 1000000 in
theorem texts_ (s : ByteArray) (w : World) (hlim : s.size ≤ 140737488355318) : Calls Tryd.prog 20 #[.string s] w (Laid w (enc s.size ++ sb s)) := by
  obtain ⟨i0, hi, hz0, hz1, hz2⟩ := info_parts infoB
  have HU := Lib.hid (uints_ s.size w (by omega))
  have hel := enc_le10 s.size (by omega)
  have hep := enc_pos s.size
  have hsb := sb_length s
  generalize enc s.size = es at *
  generalize hel2 : es.length = el at *
  generalize hsz : s.size = sl at *
  go_enter Tryd.func20, Tryd.ntmps20
  go_wp2_with fail
  refine HU.out.mono ?_
  rintro e w2 ⟨g, c, rfl, hO2, hb2⟩
  rw [hel2]
  have hrow : w2.ownsRow w.heap.size 5 1 (.slice (some ⟨g, 0, none⟩) el c) el (vals es) := by rw [← hel2]; exact hO2
  have HR := Lib.hid hrow
  have Hb2 := Lib.hid hb2
  have hg := (World.ownsRow.lt hrow g rfl).1
  have hs2 := hb2.size
  clear hO2 hrow HU hb2
  go_wp2_with (first
    | (at_builtin; refine Lib.wpList_append_own_string _ rfl _ _ 26 9 rfl w.heap.size 5 i0 Tryd.underlying26 Tryd.underlying9 hi hz0 hz1 hz2 _ el (vals es) rfl HR.out s rfl (by unfold maxLen; omega) (by omega) (by omega) ?_
       intro v' w3 hown hgrow _)
    | go_in)
  rw [kstrCells_vals, hsz] at hown
  have hO4 := own_join hel2 hsb hown
  obtain ⟨g', c', rfl, hO5⟩ := own_some hO4 (by rw [List.length_append]; omega)
  have hb5 := Hb2.out.grown hgrow hs2 (fun k hk => by cases hk; exact hg)
  generalize es ++ sb s = zs at *
  go_wp2_with fail
  go_ret
  exact ⟨g', c', rfl, hO5, hb5⟩
end Go.Proofs.YtlldamgnfaikhaaDoor
