/- Bytes among the arguments opened. -/
import Derived.Test.YtlldamgnfaikhaaDoorRwRow
import Derived.ChangeSlices
namespace Go.Proofs.YtlldamgnfaikhaaDoor
open Go.ChangeShapes Go.WideShapes Go.ChangeAt Go.RowKit

theorem u8_in {x : Int} (h : (Lit.int .u8 x).wf = true) : 0 ≤ x ∧ x ≤ 255 := by
  simp only [Lit.wf, Bool.and_eq_true, decide_eq_true_eq] at h
  exact h
theorem cellsB : Tryd.prog.cellsOf 5 = 1 := by kernel_rfl
set_option maxRecDepth 100000 in
/-- Bytes that are handed in. -/
theorem open_bytes {H : Type} {enc : TypeId × Value → H} {W : World} {base : Nat} {v : Value} {d : DataW H} {p : List MemPlace}
    (hv : Value.okWide Tryd.prog W .any base 26 v) (h : DataW.Trod enc Tryd.prog W 0 (fun _ => true) true 26 v d p) :
    ∃ (a : Option Addr) (xs : List Nat) (c : Nat), v = .slice a xs.length c ∧ BytesIn W a xs ∧ (∀ x ∈ xs, x < 256) ∧ (a = none → c = 0) ∧ xs.length ≤ c ∧ ((d = .nil ∧ xs = []) ∨ ∃ elems spare, d = .slice elems spare ∧ elems.length = xs.length) := by
  obtain ⟨a, len, cap, rfl⟩ := okWide_slice Tryd.underlying26 hv
  obtain ⟨fuel, hf⟩ := h
  rcases open_ints Tryd.underlying26 Tryd.underlying5 cellsB hf with ⟨hcs, hx⟩ | ⟨ad, len', cap', zs, hcs, _, hl, hm, hz, hx, hcell, hwz⟩
  · simp [Value.cells] at hcs
    obtain ⟨rfl, rfl, rfl⟩ := hcs
    simp only [Prod.mk.injEq] at hx
    exact ⟨none, [], 0, rfl, bytesIn_nil _ _, fun x hx => by simp at hx, fun _ => rfl, Nat.le_refl _, .inl ⟨hx.1, rfl⟩⟩
  · simp [Value.cells] at hcs
    obtain ⟨rfl, rfl, rfl⟩ := hcs
    simp only [Prod.mk.injEq] at hx
    simp only [if_true] at hz
    have hlen : ((zs.take len).map Int.toNat).length = len := by simp; omega
    refine ⟨some ad, (zs.take len).map Int.toNat, cap, by rw [hlen], fun i hi => ?_, fun x hx' => ?_, fun hh => (by cases hh), by rw [hlen]; exact hl, .inr ⟨_, _, hx.1, by simp [lits]⟩⟩
    · rw [hlen] at hi
      have hi2 : i < zs.length := by omega
      have h1 := hcell i hi2
      obtain ⟨b, o, sp⟩ := ad
      have hsp : sp = none := by
        have k0 := hcell 0 (by omega)
        cases sp with
        | none => rfl
        | some x =>
          exfalso
          rw [show (⟨b, o, some x⟩ : Addr).add 0 = ⟨b, o, some x⟩ from rfl] at k0
          unfold World.cell? at k0
          split at k0
          · simp at k0
          · cases k0
      subst hsp
      rw [Addr.add_lit] at h1
      refine ⟨b, o, rfl, h1.trans ?_⟩
      have hb := u8_in (hwz (zs.getD i 0) (by rw [List.getD_eq_getElem?_getD, List.getElem?_eq_getElem hi2]; exact List.getElem_mem hi2))
      have e : (((zs.take len).map Int.toNat).getD i 0 : Nat) = (zs.getD i 0).toNat := by
        simp [List.getD_eq_getElem?_getD, List.getElem?_map, hi, List.getElem?_eq_getElem hi2]
      rw [e]
      congr 2
      omega
    · obtain ⟨z, hz', rfl⟩ := List.mem_map.1 hx'
      have := u8_in (hwz z (List.mem_of_mem_take hz'))
      omega
theorem bulk_pos {H : Type} : ∀ d : DataW H, 1 ≤ Rows.uptoBulk d
  | .lit (.string _) => by simp [Rows.uptoBulk]
  | .lit (.int _ _) => by simp [Rows.uptoBulk]
  | .lit (.bool _) => by simp [Rows.uptoBulk]
  | .lit _ => by unfold Rows.uptoBulk; split <;> omega
  | .nil => by simp [Rows.uptoBulk]
  | .ptr _ => by simp [Rows.uptoBulk]
  | .slice _ _ => by simp [Rows.uptoBulk]
  | .agg _ => by simp [Rows.uptoBulk]
  | .iface _ _ => by simp [Rows.uptoBulk]
  | .map _ => by simp [Rows.uptoBulk]
  | .held _ => by simp [Rows.uptoBulk]
theorem bulk_all {H : Type} : ∀ ds : List (DataW H), ds.length ≤ Rows.uptoBulkAll ds
  | [] => Nat.zero_le _
  | d :: ds => by
    have h1 := bulk_all ds
    have h2 := bulk_pos d
    simp only [Rows.uptoBulkAll, List.length_cons]
    omega
theorem bulk_bytes {H : Type} {d : DataW H} {xs : List Nat} {n : Nat} (h : Rows.uptoBulk d ≤ n) (hcase : (d = .nil ∧ xs = []) ∨ ∃ elems spare, d = .slice elems spare ∧ elems.length = xs.length) : xs.length ≤ n := by
  rcases hcase with ⟨_, rfl⟩ | ⟨elems, spare, rfl, e⟩
  · simp
  · have := bulk_all (H := H) elems
    simp only [Rows.uptoBulk] at h
    omega
end Go.Proofs.YtlldamgnfaikhaaDoor
