/- The walks of pack.lay, AppendUint, AppendInt, AppendText. -/
import Derived.Test.YtlldamgnfaikhaaDoorKLay
namespace Go.Proofs.YtlldamgnfaikhaaDoor
open Go.RowKit Go.Sort

theorem one_cell (w : World) (v : Value) (t : TypeId) : ∀ j u, [v][j]? = some u → (w.alloc (.cells #[v] t)).cell? ((⟨w.heap.size, 0, none⟩ : Addr).add j) = some u := by
  intro j u hj
  cases j with
  | zero => simp at hj; subst hj; simp [go_sem, Addr.add_lit]
  | succ j => simp at hj
theorem one_one (k : IntKind) (x : Int) : ∀ u ∈ [Value.int k x], u.oneCell' = true := by
  intro u hu
  simp at hu
  subst hu
  rfl
theorem or128_all : ∀ x : Fin 256, bits .or .u8 (x.val : Int) 128 = ((x.val % 128 + 128 : Nat) : Int) := by decide +kernel
theorem or128 (m : Nat) : bits .or .u8 ((m : Int) % 256) 128 = ((m % 128 + 128 : Nat) : Int) := by
  have h := or128_all ⟨m % 256, Nat.mod_lt _ (by decide)⟩
  simp only [Int.natCast_emod] at h
  rw [show ((m : Int) % 256) = ((m : Int) % ((256 : Nat) : Int)) from rfl, h]
  omega
theorem own_snoc {w : World} {base g c n y : Nat} {xs : List Nat} (hn : xs.length = n) (h : w.ownsRow base 5 1 (.slice (some ⟨g, 0, none⟩) (n + 1) c) (n + 1) (vals xs ++ [.int .u8 (y : Int)])) : Own w base (.slice (some ⟨g, 0, none⟩) (n + 1) c) (xs ++ [y]) := by
  subst hn
  unfold Own
  rw [← vals_append, List.length_append]
  exact h
set_option maxRecDepth 100000 in
set_option maxHeartbeats 1000000 in
theorem play_ (g cap base n : Nat) (xs : List Nat) (w : World) (h : Own w base (.slice (some ⟨g, 0, none⟩) xs.length cap) xs) (hn : n < 18446744073709551616) (hr : xs.length + (enc n).length ≤ cap) (hbase : base ≤ w.heap.size) :
    Calls Tryd.prog 48 #[.slice (some ⟨g, 0, none⟩) xs.length cap, .int .u64 n] w fun e w' => e = .returned (.slice (some ⟨g, 0, none⟩) (xs ++ enc n).length cap) ∧ Own w' base (.slice (some ⟨g, 0, none⟩) (xs ++ enc n).length cap) (xs ++ enc n) ∧ Below base w w' := by
  obtain ⟨i0, hi, hz0, hz1, hz2⟩ := info_parts infoB
  obtain ⟨zs, hzs⟩ : ∃ zs, zs = xs ++ enc n := ⟨_, rfl⟩
  have hzl : zs.length ≤ cap := by rw [hzs, List.length_append]; exact hr
  have HZ := Lib.hid hzs
  have HO := Lib.hid h
  rw [← hzs]
  clear h hr hzs
  generalize hL : xs.length = n0 at *
  go_enter Tryd.func48, Tryd.ntmps48
  go_wp2_with fail
  go_loopw [0, 1] (fun ov nv wr => ∃ (m : Nat) (ys : List Nat), nv = .int .u64 m ∧ ov = .slice (some ⟨g, 0, none⟩) ys.length cap ∧ Own wr base ov ys ∧ zs = ys ++ enc m ∧ Below base w wr ∧ m < 18446744073709551616) (fun _ nv _ => (intOf nv).toNat)
  case atStart => exact ⟨n, xs, rfl, by rw [hL], HO.out, HZ.out, Below.refl _ _, hn⟩
  case round =>
    obtain ⟨m, ys, rfl, rfl, hown, he, hb, hm⟩ := hrel
    have hrow : wr.ownsRow base 5 1 (.slice (some ⟨g, 0, none⟩) ys.length cap) ys.length (vals ys) := hown
    have HO1 := Lib.hid hrow
    have HE := Lib.hid he
    have hlen : ys.length + (enc m).length ≤ cap := by rw [← List.length_append, ← he]; exact hzl
    have hpos := enc_pos m
    have hg := (World.ownsRow.lt hown g rfl).1
    have hsz := hb.size
    obtain ⟨y, hy0⟩ : ∃ y, y = m % 128 + 128 := ⟨_, rfl⟩
    have h128 : bits .or .u8 ((m : Int) % 256) 128 = (y : Int) := by rw [hy0]; exact or128 m
    have HY := Lib.hid hy0
    clear hy0
    clear hown he HZ HO hrow
    by_cases hlt : 128 ≤ m
    · have e2 : zs = (ys ++ [y]) ++ enc (m / 128) := by rw [HE.out, HY.out, enc_ge hlt, List.append_assoc]; rfl
      have HE2 := Lib.hid e2
      clear e2 HE
      generalize hy : ys.length = yl at *
      go_wp2_with (first
        | (at_builtin; refine wpList_append_fits _ rfl _ _ 26 rfl base 5 i0 1 Tryd.underlying26 hi hz1 g yl cap (vals ys) rfl (HO1.out.alloc _) ⟨wr.heap.size, 0, none⟩ 1 1 [.int .u8 (y : Int)] rfl rfl (one_cell _ _ _) (one_one _ _) (by omega) ?_
           intro w2 hown hgrow2
           have HO2 : Hid (Own w2 base (.slice (some ⟨g, 0, none⟩) (yl + 1) cap) (ys ++ [y])) := Lib.hid (own_snoc hy hown)
           have hb2 := (hb.alloc (by omega) _).grown hgrow2 (by simp; omega) (fun k hk => by cases hk; exact hg)
           clear hown hgrow2)
        | go_in)
      go_roundw
      case rel => exact ⟨m / 128, ys ++ [y], by go_num, by rw [List.length_append, hy]; rfl, HO2.out, HE2.out, hb2, by omega⟩
      case measure => simp [intOf]; omega
    · have e2 : zs = ys ++ [m] := by rw [HE.out, enc_lt (by omega)]
      have HE2 := Lib.hid e2
      have h256 : (m : Int) % 256 = m := by omega
      clear e2 HE
      generalize hy : ys.length = yl at *
      go_wp2_with (first
        | (at_builtin; refine wpList_append_fits _ rfl _ _ 26 rfl base 5 i0 1 Tryd.underlying26 hi hz1 g yl cap (vals ys) rfl (HO1.out.alloc _) ⟨wr.heap.size, 0, none⟩ 1 1 [.int .u8 (m : Int)] rfl rfl (one_cell _ _ _) (one_one _ _) (by omega) ?_
           intro w2 hown hgrow2
           have HO2 : Hid (Own w2 base (.slice (some ⟨g, 0, none⟩) (yl + 1) cap) (ys ++ [m])) := Lib.hid (own_snoc hy hown)
           have hb2 := (hb.alloc (by omega) _).grown hgrow2 (by simp; omega) (fun k hk => by cases hk; exact hg)
           clear hown hgrow2)
        | go_in)
      go_ret
      have e3 : zs.length = yl + 1 := by rw [HE2.out, List.length_append, hy]; rfl
      rw [e3, HE2.out]
      exact ⟨rfl, HO2.out, hb2⟩
end Go.Proofs.YtlldamgnfaikhaaDoor
