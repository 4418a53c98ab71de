/- The walks of pack.withRoom, lay, AppendUint, and of the law's twin. -/
import Derived.Test.YtlldamgnfaikhaaDoorKMem
namespace Go.Proofs.YtlldamgnfaikhaaDoor
open Go.RowKit Go.Sort

set_option maxHeartbeats 1000000 in
theorem room_ (a : Option Addr) (xs : List Nat) (c k : Nat) (w : World) (h : BytesIn w a xs) (hc : a = none → c = 0) (hn : xs.length + k ≤ 281474976710656) :
    Calls Tryd.prog 49 #[.slice a xs.length c, .int .i64 k] w fun e w' => e = .returned (.slice (some ⟨w.heap.size, 0, none⟩) xs.length (xs.length + k)) ∧ Own w' w.heap.size (.slice (some ⟨w.heap.size, 0, none⟩) xs.length (xs.length + k)) xs ∧ Below w.heap.size w w' := by
  obtain ⟨i0, hi, hz0, hz1, hz2⟩ := info_parts infoB
  have HB := Lib.hid h
  have hvl := vals_len xs
  cases a with
  | none =>
    obtain rfl := bytes_none h
    obtain rfl := hc rfl
    clear h
    simp only [List.length_nil, Nat.zero_add] at hn ⊢
    go_enter Tryd.func49, Tryd.ntmps49
    go_wp2_with (first
      | (at_make; refine wpList_make_own _ rfl _ _ _ rfl w.heap.size 5 i0 _ 1 Tryd.underlying26 hi hz0 hz1 .i64 .i64 k k rfl rfl rfl (by rw [hz2]; omega) (by unfold maxLen; omega) (Nat.le_refl _) ?_; intro w1 hown hgrow)
      | go_in)
    have hb := (Below.refl w.heap.size w).grown hgrow (Nat.le_refl _) (fun k hk => by cases hk)
    go_ret
    exact ⟨rfl, hown, hb⟩
  | some ad =>
    generalize hL : xs.length = n at *
    clear h hc
    go_enter Tryd.func49, Tryd.ntmps49
    go_wp2_with (first
      | (at_make; refine wpList_make_own _ rfl _ _ _ rfl w.heap.size 5 i0 _ 1 Tryd.underlying26 hi hz0 hz1 .i64 .i64 (n + k) (n + k) rfl rfl (by simp) (by rw [hz2]; omega) (by unfold maxLen; omega) (Nat.le_refl _) ?_
         intro w1 hown hgrow
         have HO := Lib.hid hown
         have hb := (Below.refl w.heap.size w).grown hgrow (Nat.le_refl _) (fun k hk => by cases hk)
         clear hown hgrow)
      | (at_builtin; refine wpList_append_fits _ rfl _ _ 26 rfl w.heap.size 5 i0 1 Tryd.underlying26 hi hz1 w.heap.size 0 (n + k) [] rfl HO.out ad n c (vals xs) rfl (by omega) (HB.out.on hb).news (vals_one xs) (by omega) ?_
         intro w2 hown hgrow2
         have HO2 := Lib.hid (own_mk hL hown)
         have hb2 := hb.grown hgrow2 hb.size (fun k hk => by cases hk; exact Nat.le_refl _)
         clear hown hgrow2)
      | go_in)
    go_ret
    exact ⟨rfl, HO2.out, hb2⟩
end Go.Proofs.YtlldamgnfaikhaaDoor
