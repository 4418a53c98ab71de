/- What the laws' rows share: numbers and bytes among the arguments opened; Texts and numbers among the arguments opened; What the row's listed type of errors gives the walk. -/
import Derived.Test.YtjnhcanohefjiaaGreatDoorRows
import Derived.Test.YtjnhcanohefjiaaGreatDoorDRestart
import Derived.ProofKit
import Derived.OpenShut
import Derived.SizedLaws
import Derived.Carry
import Derived.ChangeSlices
import Derived.HandedShaped
import Derived.Shelf.Vars
import Derived.Deep.Slices
import Derived.Test.YtjnhcanohefjiaaGreatDoorJJF
import Derived.Test.YtjnhcanohefjiaaGreatDoorCards
import Derived.Test.YtjnhcanohefjiaaGreatDoorTie
import Derived.LaidMore
import Derived.LaidHandle
import Derived.Stop.Joined
import Derived.Lib.SmallJoins
import Derived.Deep.DeepHandedRow
import Derived.Deep.DeepWitnessRowRef
namespace Go.Proofs.YtjnhcanohefjiaaGreatDoor
open Go.ChangeShapes Go.WideShapes Go.ChangeAt Go.RowKit

theorem own : ownKnob Tryz.prog.godebug = none := by kernel_rfl
theorem i64_in {x : Int} (h : (Lit.int .i64 x).wf = true) : -9223372036854775808 ≤ x ∧ x ≤ 9223372036854775807 := by
  simp only [Lit.wf, Bool.and_eq_true, decide_eq_true_eq] at h
  exact h
theorem u8_in {x : Int} (h : (Lit.int .u8 x).wf = true) : 0 ≤ x ∧ x ≤ 255 := by
  simp only [Lit.wf, Bool.and_eq_true, decide_eq_true_eq] at h
  exact h
theorem cellsB : Tryz.prog.cellsOf 5 = 1 := by kernel_rfl
theorem bytesB : Tryz.prog.bytesOf 5 = 1 := by kernel_rfl

set_option maxRecDepth 100000 in
/-- Bytes that are handed in. -/
theorem open_bytes {H : Type} {enc : TypeId × Value → H} {W : World} {base : Nat} {v : Value} {d : DataW H} {p : List MemPlace}
    (hv : Value.okWide Tryz.prog W .any base 53 v) (h : DataW.Trod enc Tryz.prog W 0 (fun _ => true) true 53 v d p) :
    ∃ (a : Option Addr) (xs : List Nat) (c : Nat), v = .slice a xs.length c ∧ BytesIn W a xs ∧ (∀ x ∈ xs, x < 256) ∧ (a = none → c = 0) ∧ xs.length ≤ c ∧ ((d = .nil ∧ xs = []) ∨ ∃ elems spare, d = .slice elems spare ∧ elems.length = xs.length) := by
  obtain ⟨a, len, cap, rfl⟩ := okWide_slice Tryz.underlying53 hv
  obtain ⟨fuel, hf⟩ := h
  rcases open_ints Tryz.underlying53 Tryz.underlying5 cellsB hf with ⟨hcs, hx⟩ | ⟨ad, len', cap', zs, hcs, _, hl, hm, hz, hx, hcell, hwz⟩
  · simp [Value.cells] at hcs
    obtain ⟨rfl, rfl, rfl⟩ := hcs
    simp only [Prod.mk.injEq] at hx
    exact ⟨none, [], 0, rfl, bytesIn_nil _ _, fun x hx => by simp at hx, fun _ => rfl, Nat.le_refl _, .inl ⟨hx.1, rfl⟩⟩
  · simp [Value.cells] at hcs
    obtain ⟨rfl, rfl, rfl⟩ := hcs
    simp only [Prod.mk.injEq] at hx
    simp only [if_true] at hz
    have hlen : ((zs.take len).map Int.toNat).length = len := by simp; omega
    refine ⟨some ad, (zs.take len).map Int.toNat, cap, by rw [hlen], fun i hi => ?_, fun x hx' => ?_, fun hh => (by cases hh), by rw [hlen]; exact hl, .inr ⟨_, _, hx.1, by simp [lits]⟩⟩
    · rw [hlen] at hi
      have hi2 : i < zs.length := by omega
      have h1 := hcell i hi2
      obtain ⟨b, o, sp⟩ := ad
      have hsp : sp = none := by
        have k0 := hcell 0 (by omega)
        cases sp with
        | none => rfl
        | some x =>
          exfalso
          rw [show (⟨b, o, some x⟩ : Addr).add 0 = ⟨b, o, some x⟩ from rfl] at k0
          unfold World.cell? at k0
          split at k0
          · simp at k0
          · cases k0
      subst hsp
      rw [Addr.add_lit] at h1
      refine ⟨b, o, rfl, h1.trans ?_⟩
      have hb := u8_in (hwz (zs.getD i 0) (by rw [List.getD_eq_getElem?_getD, List.getElem?_eq_getElem hi2]; exact List.getElem_mem hi2))
      have e : (((zs.take len).map Int.toNat).getD i 0 : Nat) = (zs.getD i 0).toNat := by
        simp [List.getD_eq_getElem?_getD, List.getElem?_map, hi, List.getElem?_eq_getElem hi2]
      rw [e]
      congr 2
      omega
    · obtain ⟨z, hz', rfl⟩ := List.mem_map.1 hx'
      have := u8_in (hwz z (List.mem_of_mem_take hz'))
      omega
/-- As many as a machine has room for. -/
theorem bytes_lim {H : Type} {ts : List TypeId} {ds : List (DataW H)} {d : DataW H} {xs : List Nat} (h : (DataW.weightsEach Tryz.prog ts ds).all (· ≤ reachBytes) = true) {j : Nat} (ht : ts[j]? = some 53) (hd : ds[j]? = some d)
    (hcase : (d = .nil ∧ xs = []) ∨ ∃ elems spare, d = .slice elems spare ∧ elems.length = xs.length) : xs.length ≤ 140737488351232 := by
  rcases hcase with ⟨_, rfl⟩ | ⟨elems, spare, rfl, e⟩
  · simp
  · have := sized_slice h ht hd Tryz.underlying53
    rw [bytesB] at this
    have e3 : reachBytes = 140737488351232 := by decide
    rw [← e]
    omega
end Go.Proofs.YtjnhcanohefjiaaGreatDoor

namespace Go.Proofs.YtjnhcanohefjiaaGreatDoor
open Go.ChangeShapes Go.WideShapes Go.ChangeAt Go.RowKit

theorem cells3 : Tryz.prog.cellsOf 3 = 1 := by kernel_rfl
theorem cellsS : Tryz.prog.cellsOf 53 = 1 := by kernel_rfl
theorem cellsI : Tryz.prog.cellsOf 41 = 1 := by kernel_rfl
theorem bytes3 : Tryz.prog.bytesOf 3 = 8 := by kernel_rfl
theorem plain_addr {W : World} {b o : Nat} {sp : Option Nat} {v : Value} (h : W.cell? ⟨b, o, sp⟩ = some v) : sp = none := by
  cases sp with
  | none => rfl
  | some x =>
    unfold World.cell? at h
    split at h
    · simp at h
    · cases h
set_option maxRecDepth 100000 in
/-- Bytes that are read, wherever they stand. -/
theorem bytes_of {H : Type} {enc : TypeId × Value → H} {W : World} {fuel : Nat} {cs : List Value} {d : DataW H} {p : List MemPlace}
    (hf : DataW.trod enc Tryz.prog W 0 (fun _ => true) true fuel 53 cs = some (d, p)) :
    ∃ (a : Option Addr) (xs : List Nat) (c : Nat), cs = [.slice a xs.length c] ∧ BytesIn W a xs ∧ (∀ x ∈ xs, x < 256) ∧ (a = none → c = 0) ∧ xs.length ≤ c ∧ ((d = .nil ∧ xs = []) ∨ ∃ elems spare, d = .slice elems spare ∧ elems.length = xs.length) := by
  rcases open_ints Tryz.underlying53 Tryz.underlying5 cellsB hf with ⟨hcs, hx⟩ | ⟨ad, len, cap, zs, hcs, _, hl, hm, hz, hx, hcell, hwz⟩
  · simp only [Prod.mk.injEq] at hx
    exact ⟨none, [], 0, hcs, bytesIn_nil _ _, fun x hx => by simp at hx, fun _ => rfl, Nat.le_refl _, .inl ⟨hx.1, rfl⟩⟩
  · simp only [Prod.mk.injEq] at hx
    simp only [if_true] at hz
    have hlen : ((zs.take len).map Int.toNat).length = len := by simp; omega
    refine ⟨some ad, (zs.take len).map Int.toNat, cap, by rw [hlen]; exact hcs, fun i hi => ?_, fun x hx' => ?_, fun hh => (by cases hh), by rw [hlen]; exact hl, .inr ⟨_, _, hx.1, by simp [lits]⟩⟩
    · rw [hlen] at hi
      have hi2 : i < zs.length := by omega
      have h1 := hcell i hi2
      obtain ⟨b, o, sp⟩ := ad
      have hsp : sp = none := plain_addr (b := b) (o := o) (hcell 0 (by omega))
      subst hsp
      rw [Addr.add_lit] at h1
      refine ⟨b, o, rfl, h1.trans ?_⟩
      have hb := u8_in (hwz (zs.getD i 0) (by rw [List.getD_eq_getElem?_getD, List.getElem?_eq_getElem hi2]; exact List.getElem_mem hi2))
      have e : (((zs.take len).map Int.toNat).getD i 0 : Nat) = (zs.getD i 0).toNat := by
        simp [List.getD_eq_getElem?_getD, List.getElem?_map, hi, List.getElem?_eq_getElem hi2]
      rw [e]
      congr 2
      omega
    · obtain ⟨z, hz', rfl⟩ := List.mem_map.1 hx'
      have := u8_in (hwz z (List.mem_of_mem_take hz'))
      omega
set_option maxRecDepth 100000 in
/-- Numbers that are read, wherever they stand. -/
theorem ints_of {H : Type} {enc : TypeId × Value → H} {W : World} {fuel : Nat} {cs : List Value} {d : DataW H} {p : List MemPlace}
    (hf : DataW.trod enc Tryz.prog W 0 (fun _ => true) true fuel 41 cs = some (d, p)) :
    ∃ (a : Option Addr) (zs : List Int) (c : Nat), cs = [.slice a zs.length c] ∧ IntsIn W a zs ∧ (a = none → c = 0) ∧ zs.length ≤ c ∧ ((d = .nil ∧ zs = []) ∨ ∃ elems spare, d = .slice elems spare ∧ elems.length = zs.length) := by
  rcases open_ints Tryz.underlying41 Tryz.underlying3 cells3 hf with ⟨hcs, hx⟩ | ⟨ad, len, cap, zs, hcs, _, hl, hm, hz, hx, hcell, hwz⟩
  · simp only [Prod.mk.injEq] at hx
    exact ⟨none, [], 0, hcs, intsIn_nil _ _, fun _ => rfl, Nat.le_refl _, .inl ⟨hx.1, rfl⟩⟩
  · simp only [Prod.mk.injEq] at hx
    simp only [if_true] at hz
    have hlen : (zs.take len).length = len := by simp; omega
    refine ⟨some ad, zs.take len, cap, by rw [hlen]; exact hcs, fun i hi => ?_, fun hh => (by cases hh), by rw [hlen]; exact hl, .inr ⟨_, _, hx.1, by simp [lits]⟩⟩
    rw [hlen] at hi
    have hi2 : i < zs.length := by omega
    have h1 := hcell i hi2
    obtain ⟨b, o, sp⟩ := ad
    have hsp : sp = none := plain_addr (b := b) (o := o) (hcell 0 (by omega))
    subst hsp
    rw [Addr.add_lit] at h1
    refine ⟨b, o, rfl, h1.trans ?_⟩
    simp [List.getD_eq_getElem?_getD, List.getElem?_eq_getElem hi2]
theorem weights_all {H : Type} {P : Program} {e : TypeId} {l : List (DataW H)} {d : DataW H} {k : Nat} (hd : d ∈ l) (hk : k ∈ d.weights P e) : k ∈ DataW.weightsAll P e l := by
  induction l with
  | nil => cases hd
  | cons x r ih =>
    unfold DataW.weightsAll
    rcases List.mem_cons.1 hd with rfl | hd
    · exact List.mem_append_left _ hk
    · exact List.mem_append_right _ (ih hd)
theorem len_weight {H : Type} {P : Program} {t e : TypeId} (ht : P.underlying t = some (.slice e)) {d : DataW H} {n : Nat} (hc : (d = .nil ∧ n = 0) ∨ ∃ elems spare, d = .slice elems spare ∧ elems.length = n) : n = 0 ∨ ∃ k, k ∈ d.weights P t ∧ n * P.bytesOf e ≤ k := by
  rcases hc with ⟨_, rfl⟩ | ⟨elems, spare, rfl, rfl⟩
  · exact .inl rfl
  · refine .inr ⟨(elems.length + spare.length) * P.bytesOf e, ?_, Nat.mul_le_mul_right _ (Nat.le_add_right _ _)⟩
    unfold DataW.weights
    rw [ht]
    exact List.mem_cons_self
set_option maxRecDepth 100000 in
/-- Numbers that are handed in. -/
theorem open_ints8 {H : Type} {enc : TypeId × Value → H} {W : World} {base : Nat} {v : Value} {d : DataW H} {p : List MemPlace}
    (hv : Value.okWide Tryz.prog W .any base 41 v) (h : DataW.Trod enc Tryz.prog W 0 (fun _ => true) true 41 v d p) :
    ∃ (a : Option Addr) (zs : List Int) (c : Nat), v = .slice a zs.length c ∧ IntsIn W a zs ∧ (a = none → c = 0) ∧ zs.length ≤ c ∧ ((d = .nil ∧ zs = []) ∨ ∃ elems spare, d = .slice elems spare ∧ elems.length = zs.length) := by
  obtain ⟨a, len, cap, rfl⟩ := okWide_slice Tryz.underlying41 hv
  obtain ⟨fuel, h⟩ := h
  have h' : DataW.trod enc Tryz.prog W 0 (fun _ => true) true fuel 41 [.slice a len cap] = some (d, p) := by simpa [Value.cells] using h
  obtain ⟨a', zs, c', e, r⟩ := ints_of h'
  simp only [List.cons.injEq, and_true] at e
  exact ⟨a', zs, c', e, r⟩
/-- As many as a machine has room for. -/
theorem ints_lim {H : Type} {ts : List TypeId} {ds : List (DataW H)} {d : DataW H} {zs : List Int} (h : (DataW.weightsEach Tryz.prog ts ds).all (· ≤ reachBytes) = true) {j : Nat} (ht : ts[j]? = some 41) (hd : ds[j]? = some d)
    (hcase : (d = .nil ∧ zs = []) ∨ ∃ elems spare, d = .slice elems spare ∧ elems.length = zs.length) : zs.length * 8 ≤ 140737488351232 := by
  rcases hcase with ⟨_, rfl⟩ | ⟨elems, spare, rfl, e⟩
  · simp
  · have := sized_slice h ht hd Tryz.underlying41
    rw [bytes3] at this
    have e3 : reachBytes = 140737488351232 := by decide
    rw [← e]
    omega
/-- A text among others. -/
structure TxV where
  a : Option Addr
  xs : List Nat
  c : Nat
/-- Texts in memory. -/
def TxsAt (w : World) (a : Option Addr) (n : Nat) (f : Nat → TxV) : Prop := ∀ i, i < n → ∃ b o, a = some ⟨b, o, none⟩ ∧ w.cell? ⟨b, o + i, none⟩ = some (.slice (f i).a (f i).xs.length (f i).c) ∧ BytesIn w (f i).a (f i).xs ∧ (∀ x ∈ (f i).xs, x < 256) ∧ ((f i).a = none → (f i).c = 0) ∧ (f i).xs.length ≤ (f i).c
theorem TxsAt.on {w w' : World} {a : Option Addr} {n : Nat} {f : Nat → TxV} (h : TxsAt w a n f) (hb : Below w.heap.size w w') : TxsAt w' a n f := fun i hi => by
  obtain ⟨b, o, e, h1, h2, h3⟩ := h i hi
  exact ⟨b, o, e, (hb.cell (block_lt_of_cell h1)).trans h1, h2.on hb, h3⟩
set_option maxRecDepth 100000 in
theorem open_texts {H : Type} {enc : TypeId × Value → H} {W : World} {base : Nat} {v : Value} {d : DataW H} {p : List MemPlace}
    (hv : Value.okWide Tryz.prog W .any base 38 v) (h : DataW.Trod enc Tryz.prog W 0 (fun _ => true) true 38 v d p) :
    ∃ (a : Option Addr) (n c : Nat) (f : Nat → TxV), v = .slice a n c ∧ TxsAt W a n f ∧ ((d.weights Tryz.prog 38).all (· ≤ reachBytes) = true → ∀ i, i < n → (f i).xs.length ≤ reachBytes) ∧ ((d = .nil ∧ n = 0) ∨ ∃ elems spare, d = .slice elems spare ∧ elems.length = n) := by
  obtain ⟨a, len, cap, rfl⟩ := okWide_slice Tryz.underlying38 hv
  obtain ⟨fuel, hf⟩ := h
  rcases Deep.open_slice1 Tryz.underlying38 cellsS hf with ⟨hcs, hx⟩ | ⟨ad, len', cap', m, n, V, D, Pl, hcs, _, hl, hm, hz, hx, hcell⟩
  · simp [Value.cells] at hcs
    obtain ⟨rfl, rfl, rfl⟩ := hcs
    simp only [Prod.mk.injEq] at hx
    exact ⟨none, 0, 0, fun _ => ⟨none, [], 0⟩, rfl, fun i hi => by omega, fun _ i hi => by omega, .inl ⟨hx.1, rfl⟩⟩
  · simp [Value.cells] at hcs
    obtain ⟨rfl, rfl, rfl⟩ := hcs
    simp only [if_true] at hz
    subst hz
    obtain ⟨f, hfx⟩ := Deep.choose_lt (α := Option Addr × List Nat × Nat) (n := len) (p := fun i x => V i = .slice x.1 x.2.1.length x.2.2 ∧ BytesIn W x.1 x.2.1 ∧ (∀ y ∈ x.2.1, y < 256) ∧ (x.1 = none → x.2.2 = 0) ∧ x.2.1.length ≤ x.2.2 ∧ ((D i = .nil ∧ x.2.1.length = 0) ∨ ∃ elems spare, D i = .slice elems spare ∧ elems.length = x.2.1.length)) (fun i hi => by
      have h2 := (hcell i (by omega)).2
      obtain ⟨a', xs, c, k1, k2, k3, k4, k5, k6⟩ := bytes_of h2
      simp at k1
      exact ⟨(a', xs, c), k1, k2, k3, k4, k5, by rcases k6 with ⟨e1, e2⟩ | e; exact .inl ⟨e1, by show xs.length = 0; rw [e2]; rfl⟩; exact .inr e⟩)
    simp only [Prod.mk.injEq] at hx
    refine ⟨some ad, len, m, fun i => ⟨(f i).1, (f i).2.1, (f i).2.2⟩, rfl, fun i hi => ?_, fun hw i hi => ?_, .inr ⟨_, _, hx.1, by simp⟩⟩
    rotate_left
    · obtain ⟨_, _, _, _, _, e6⟩ := hfx i hi
      rcases len_weight (P := Tryz.prog) Tryz.underlying53 (n := (f i).2.1.length) e6 with e | ⟨k, hk, hle⟩
      · show (f i).2.1.length ≤ _
        rw [e]; exact Nat.zero_le _
      · rw [bytesB] at hle
        rw [hx.1, List.all_eq_true] at hw
        have := hw k (by
          unfold DataW.weights
          rw [Tryz.underlying38]
          exact List.mem_cons_of_mem _ (List.mem_append_left _ (weights_all (List.mem_map.2 ⟨i, List.mem_range.2 hi, rfl⟩) hk)))
        simp only [decide_eq_true_eq] at this
        show (f i).2.1.length ≤ _
        omega
    have h1 := (hcell i (by omega)).1
    obtain ⟨b, o, sp⟩ := ad
    have hsp : sp = none := by
      have k0 := (hcell 0 (by omega)).1
      rw [show (⟨b, o, sp⟩ : Addr).add 0 = ⟨b, o, sp⟩ from rfl] at k0
      exact plain_addr k0
    subst hsp
    rw [Addr.add_lit] at h1
    obtain ⟨e1, e2, e3, e4, e5, _⟩ := hfx i hi
    exact ⟨b, o, rfl, by rw [← e1]; exact h1, e2, e3, e4, e5⟩
end Go.Proofs.YtjnhcanohefjiaaGreatDoor

namespace Go.Proofs.YtjnhcanohefjiaaGreatDoor
open Go.ChangeShapes Go.WideShapes Go.ChangeAt Go.RowKit Go.Joins

theorem gErr : Tryz.prog.globalNamed "errors.errorType" = some 0 := by kernel_rfl
theorem errRow : ((List.range 236).filter fun t => Tryz.prog.rowNamed t [101, 114, 114, 111, 114]) = [28] := by kernel_rfl
theorem err_of_handles {W : World} (h : handlesMet Tryz.prog [("errors.errorType", Rows.laid_errors_errorType)] W) : ErrType W := by
  obtain ⟨name, u, ty, e1, e2, e3, e4, e5⟩ := h _ (List.mem_singleton.2 rfl)
  have en : name = [101, 114, 114, 111, 114] := (Option.some.inj e1).symm
  subst en
  obtain rfl : u = 155 := Option.some.inj (e2.symm.trans (show _ = some 155 by kernel_rfl))
  have hm : ty ∈ (List.range 236).filter fun t => Tryz.prog.rowNamed t [101, 114, 114, 111, 114] := List.mem_filter.2 ⟨List.mem_range.2 (by rw [← typesSize]; exact e3), e4⟩
  rw [errRow] at hm
  obtain rfl := List.mem_singleton.1 hm
  have hh : typeHandle Tryz.prog 28 = .pointer (some ⟨1, 28, none⟩) := by kernel_rfl
  rw [hh] at e5
  have := World.var?_cell gErr e5 0
  unfold ErrType
  simpa using this
end Go.Proofs.YtjnhcanohefjiaaGreatDoor
