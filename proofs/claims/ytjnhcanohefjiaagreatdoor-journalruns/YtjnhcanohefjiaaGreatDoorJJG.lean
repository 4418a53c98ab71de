/- What the laws' rows share: numbers and bytes among the arguments opened; What is done to a device, among the arguments, opened. -/
import Derived.Test.YtjnhcanohefjiaaGreatDoorRows
import Derived.Test.YtjnhcanohefjiaaGreatDoorDRestart
import Derived.ProofKit
import Derived.OpenShut
import Derived.SizedLaws
import Derived.Carry
import Derived.ChangeSlices
import Derived.HandedShaped
import Derived.Shelf.Vars
import Derived.Deep.Slices
namespace Go.Proofs.YtjnhcanohefjiaaGreatDoor
open Go.ChangeShapes Go.WideShapes Go.ChangeAt Go.RowKit

theorem own : ownKnob Tryz.prog.godebug = none := by kernel_rfl
theorem i64_in {x : Int} (h : (Lit.int .i64 x).wf = true) : -9223372036854775808 ≤ x ∧ x ≤ 9223372036854775807 := by
  simp only [Lit.wf, Bool.and_eq_true, decide_eq_true_eq] at h
  exact h
theorem u8_in {x : Int} (h : (Lit.int .u8 x).wf = true) : 0 ≤ x ∧ x ≤ 255 := by
  simp only [Lit.wf, Bool.and_eq_true, decide_eq_true_eq] at h
  exact h
theorem cellsB : Tryz.prog.cellsOf 5 = 1 := by kernel_rfl
theorem bytesB : Tryz.prog.bytesOf 5 = 1 := by kernel_rfl

end Go.Proofs.YtjnhcanohefjiaaGreatDoor

namespace Go.Proofs.YtjnhcanohefjiaaGreatDoor
open Go.ChangeShapes Go.WideShapes Go.ChangeAt Go.RowKit

/-- Something done to a device. -/
structure ActV where
  kind : Int
  at' : Int
  da : Option Addr
  dxs : List Nat
  dc : Nat
  ca : Option Addr
  cs : List Int
  cc : Nat
/-- How it lies in memory. -/
structure ActIn (w : World) (b o : Nat) (x : ActV) : Prop where
  c0 : w.cell? ⟨b, o, none⟩ = some (.int .i64 x.kind)
  c1 : w.cell? ⟨b, o + 1, none⟩ = some (.int .i64 x.at')
  c2 : w.cell? ⟨b, o + 2, none⟩ = some (.slice x.da x.dxs.length x.dc)
  c3 : w.cell? ⟨b, o + 3, none⟩ = some (.slice x.ca x.cs.length x.cc)
  data : BytesIn w x.da x.dxs
  byte : ∀ y ∈ x.dxs, y < 256
  dn : x.da = none → x.dc = 0
  dl : x.dxs.length ≤ x.dc
  ints : IntsIn w x.ca x.cs
  cn : x.ca = none → x.cc = 0
  cl : x.cs.length ≤ x.cc
  ai : inI x.at'
def ActsAt (w : World) (a : Option Addr) (n : Nat) (f : Nat → ActV) : Prop := ∀ i, i < n → ∃ b o, a = some ⟨b, o, none⟩ ∧ ActIn w b (o + i * 4) (f i)
theorem ActIn.on {w w' : World} {b o : Nat} {x : ActV} (h : ActIn w b o x) (hb : Below w.heap.size w w') : ActIn w' b o x :=
  ⟨(hb.cell (block_lt_of_cell h.c0)).trans h.c0, (hb.cell (block_lt_of_cell h.c1)).trans h.c1, (hb.cell (block_lt_of_cell h.c2)).trans h.c2, (hb.cell (block_lt_of_cell h.c3)).trans h.c3, h.data.on hb, h.byte, h.dn, h.dl, h.ints.on hb, h.cn, h.cl, h.ai⟩
theorem ActsAt.on {w w' : World} {a : Option Addr} {n : Nat} {f : Nat → ActV} (h : ActsAt w a n f) (hb : Below w.heap.size w w') : ActsAt w' a n f := fun i hi => by
  obtain ⟨b, o, e, h1⟩ := h i hi
  exact ⟨b, o, e, h1.on hb⟩
theorem cells3 : Tryz.prog.cellsOf 3 = 1 := by kernel_rfl
theorem cellsA : Tryz.prog.cellsOf 55 = 4 := by kernel_rfl
theorem cellsS : Tryz.prog.cellsOf 53 = 1 := by kernel_rfl
theorem cellsI : Tryz.prog.cellsOf 41 = 1 := by kernel_rfl
theorem bytes3 : Tryz.prog.bytesOf 3 = 8 := by kernel_rfl
theorem plain_addr {W : World} {b o : Nat} {sp : Option Nat} {v : Value} (h : W.cell? ⟨b, o, sp⟩ = some v) : sp = none := by
  cases sp with
  | none => rfl
  | some x =>
    unfold World.cell? at h
    split at h
    · simp at h
    · cases h
set_option maxRecDepth 100000 in
/-- Bytes that are read, wherever they stand. -/
theorem bytes_of {H : Type} {enc : TypeId × Value → H} {W : World} {fuel : Nat} {cs : List Value} {d : DataW H} {p : List MemPlace}
    (hf : DataW.trod enc Tryz.prog W 0 (fun _ => true) true fuel 53 cs = some (d, p)) :
    ∃ (a : Option Addr) (xs : List Nat) (c : Nat), cs = [.slice a xs.length c] ∧ BytesIn W a xs ∧ (∀ x ∈ xs, x < 256) ∧ (a = none → c = 0) ∧ xs.length ≤ c ∧ ((d = .nil ∧ xs = []) ∨ ∃ elems spare, d = .slice elems spare ∧ elems.length = xs.length) := by
  rcases open_ints Tryz.underlying53 Tryz.underlying5 cellsB hf with ⟨hcs, hx⟩ | ⟨ad, len, cap, zs, hcs, _, hl, hm, hz, hx, hcell, hwz⟩
  · simp only [Prod.mk.injEq] at hx
    exact ⟨none, [], 0, hcs, bytesIn_nil _ _, fun x hx => by simp at hx, fun _ => rfl, Nat.le_refl _, .inl ⟨hx.1, rfl⟩⟩
  · simp only [Prod.mk.injEq] at hx
    simp only [if_true] at hz
    have hlen : ((zs.take len).map Int.toNat).length = len := by simp; omega
    refine ⟨some ad, (zs.take len).map Int.toNat, cap, by rw [hlen]; exact hcs, fun i hi => ?_, fun x hx' => ?_, fun hh => (by cases hh), by rw [hlen]; exact hl, .inr ⟨_, _, hx.1, by simp [lits]⟩⟩
    · rw [hlen] at hi
      have hi2 : i < zs.length := by omega
      have h1 := hcell i hi2
      obtain ⟨b, o, sp⟩ := ad
      have hsp : sp = none := plain_addr (b := b) (o := o) (hcell 0 (by omega))
      subst hsp
      rw [Addr.add_lit] at h1
      refine ⟨b, o, rfl, h1.trans ?_⟩
      have hb := u8_in (hwz (zs.getD i 0) (by rw [List.getD_eq_getElem?_getD, List.getElem?_eq_getElem hi2]; exact List.getElem_mem hi2))
      have e : (((zs.take len).map Int.toNat).getD i 0 : Nat) = (zs.getD i 0).toNat := by
        simp [List.getD_eq_getElem?_getD, List.getElem?_map, hi, List.getElem?_eq_getElem hi2]
      rw [e]
      congr 2
      omega
    · obtain ⟨z, hz', rfl⟩ := List.mem_map.1 hx'
      have := u8_in (hwz z (List.mem_of_mem_take hz'))
      omega
set_option maxRecDepth 100000 in
/-- Numbers that are read, wherever they stand. -/
theorem ints_of {H : Type} {enc : TypeId × Value → H} {W : World} {fuel : Nat} {cs : List Value} {d : DataW H} {p : List MemPlace}
    (hf : DataW.trod enc Tryz.prog W 0 (fun _ => true) true fuel 41 cs = some (d, p)) :
    ∃ (a : Option Addr) (zs : List Int) (c : Nat), cs = [.slice a zs.length c] ∧ IntsIn W a zs ∧ (a = none → c = 0) ∧ zs.length ≤ c ∧ ((d = .nil ∧ zs = []) ∨ ∃ elems spare, d = .slice elems spare ∧ elems.length = zs.length) := by
  rcases open_ints Tryz.underlying41 Tryz.underlying3 cells3 hf with ⟨hcs, hx⟩ | ⟨ad, len, cap, zs, hcs, _, hl, hm, hz, hx, hcell, hwz⟩
  · simp only [Prod.mk.injEq] at hx
    exact ⟨none, [], 0, hcs, intsIn_nil _ _, fun _ => rfl, Nat.le_refl _, .inl ⟨hx.1, rfl⟩⟩
  · simp only [Prod.mk.injEq] at hx
    simp only [if_true] at hz
    have hlen : (zs.take len).length = len := by simp; omega
    refine ⟨some ad, zs.take len, cap, by rw [hlen]; exact hcs, fun i hi => ?_, fun hh => (by cases hh), by rw [hlen]; exact hl, .inr ⟨_, _, hx.1, by simp [lits]⟩⟩
    rw [hlen] at hi
    have hi2 : i < zs.length := by omega
    have h1 := hcell i hi2
    obtain ⟨b, o, sp⟩ := ad
    have hsp : sp = none := plain_addr (b := b) (o := o) (hcell 0 (by omega))
    subst hsp
    rw [Addr.add_lit] at h1
    refine ⟨b, o, rfl, h1.trans ?_⟩
    simp [List.getD_eq_getElem?_getD, List.getElem?_eq_getElem hi2]
theorem weights_all {H : Type} {P : Program} {e : TypeId} {l : List (DataW H)} {d : DataW H} {k : Nat} (hd : d ∈ l) (hk : k ∈ d.weights P e) : k ∈ DataW.weightsAll P e l := by
  induction l with
  | nil => cases hd
  | cons x r ih =>
    unfold DataW.weightsAll
    rcases List.mem_cons.1 hd with rfl | hd
    · exact List.mem_append_left _ hk
    · exact List.mem_append_right _ (ih hd)
theorem len_weight {H : Type} {P : Program} {t e : TypeId} (ht : P.underlying t = some (.slice e)) {d : DataW H} {n : Nat} (hc : (d = .nil ∧ n = 0) ∨ ∃ elems spare, d = .slice elems spare ∧ elems.length = n) : n = 0 ∨ ∃ k, k ∈ d.weights P t ∧ n * P.bytesOf e ≤ k := by
  rcases hc with ⟨_, rfl⟩ | ⟨elems, spare, rfl, rfl⟩
  · exact .inl rfl
  · refine .inr ⟨(elems.length + spare.length) * P.bytesOf e, ?_, Nat.mul_le_mul_right _ (Nat.le_add_right _ _)⟩
    unfold DataW.weights
    rw [ht]
    exact List.mem_cons_self
set_option maxRecDepth 100000 in
set_option maxHeartbeats 1000000 in
/-- Things done that are handed in. -/
theorem open_acts {H : Type} {enc : TypeId × Value → H} {W : World} {base : Nat} {v : Value} {d : DataW H} {p : List MemPlace}
    (hv : Value.okWide Tryz.prog W .any base 25 v) (h : DataW.Trod enc Tryz.prog W 0 (fun _ => true) true 25 v d p) :
    ∃ (a : Option Addr) (n c : Nat) (f : Nat → ActV), v = .slice a n c ∧ ActsAt W a n f ∧ ((d.weights Tryz.prog 25).all (· ≤ reachBytes) = true → ∀ i, i < n → (f i).dxs.length ≤ reachBytes ∧ (f i).cs.length * 8 ≤ reachBytes) := by
  obtain ⟨a, len, cap, rfl⟩ := okWide_slice Tryz.underlying25 hv
  obtain ⟨fuel, h⟩ := h
  have h' : DataW.trod enc Tryz.prog W 0 (fun _ => true) true fuel 25 [.slice a len cap] = some (d, p) := by simpa [Value.cells] using h
  rcases Deep.open_slice Tryz.underlying25 h' with ⟨e1, e2⟩ | ⟨ad, len', cap', m, n, D, Pl, e1, _, hl, hcm, hm, e2, hc⟩
  · simp only [List.cons.injEq, and_true, Value.slice.injEq] at e1
    obtain ⟨rfl, rfl, rfl⟩ := e1
    exact ⟨none, 0, 0, fun _ => ⟨0, 0, none, [], 0, none, [], 0⟩, rfl, fun i hi => by omega, fun _ i hi => by omega⟩
  · simp only [List.cons.injEq, and_true, Value.slice.injEq] at e1
    obtain ⟨rfl, rfl, rfl⟩ := e1
    simp only [if_true] at hm
    subst hm
    simp only [Prod.mk.injEq] at e2
    have each : ∀ i, i < m → ∃ x : ActV, (∃ b o, ad = ⟨b, o, none⟩ ∧ ActIn W b (o + i * 4) x) ∧ (((D i).weights Tryz.prog 55).all (· ≤ reachBytes) = true → x.dxs.length ≤ reachBytes ∧ x.cs.length * 8 ≤ reachBytes) := by
      intro i hi
      obtain ⟨cs', h1, h2⟩ := hc i hi
      rw [cellsA] at h1
      obtain ⟨_, hlen, hcell⟩ := World.cells?_some h1
      obtain ⟨xs, k, _, hxy, _, hxl, hf⟩ := DataW.trod_struct Tryz.underlying55 h2
      match xs, hxl, cs', hlen with
      | [y0, y1, y2, y3], _, [v0, v1, v2, v3], _ =>
        have g0 := hf 0 _ rfl
        have g1 := hf 1 _ rfl
        have g2 := hf 2 _ rfl
        have g3 := hf 3 _ rfl
        simp [cells3, cellsS, cellsI] at g0 g1 g2 g3
        obtain ⟨x0, f0, rfl, w0⟩ := DataW.trod_int Tryz.underlying3 g0
        obtain ⟨x1, f1, rfl, w1⟩ := DataW.trod_int Tryz.underlying3 g1
        simp at f0 f1
        subst f0 f1
        obtain ⟨d3, p3⟩ := y2
        obtain ⟨d4, p4⟩ := y3
        obtain ⟨da, dxs, dc, f3, b1, b2, b3, b4, b5⟩ := bytes_of g2
        obtain ⟨ca, cs, cc, f4, z1, z2, z3, z4⟩ := ints_of g3
        simp at f3 f4
        subst f3 f4
        obtain ⟨b, o, sp⟩ := ad
        have k0 := hcell 0 (by simp)
        have k1 := hcell 1 (by simp)
        have k2 := hcell 2 (by simp)
        have k3 := hcell 3 (by simp)
        have hsp : sp = none := by
          obtain ⟨cs0, q1, _⟩ := hc 0 (by omega)
          rw [cellsA] at q1
          obtain ⟨_, zl, zc⟩ := World.cells?_some q1
          have q0 := zc 0 (by omega)
          exact plain_addr (b := b) (o := o) (q0.trans (List.getElem?_eq_getElem (by omega)))
        subst hsp
        simp only [Addr.add_lit] at k0 k1 k2 k3
        refine ⟨⟨x0, x1, da, dxs, dc, ca, cs, cc⟩, ⟨b, o, rfl, by simpa using k0, by simpa [Nat.add_assoc] using k1, by simpa [Nat.add_assoc] using k2, by simpa [Nat.add_assoc] using k3, b1, b2, b3, b4, z1, z2, z3, i64_in w1⟩, fun hw => ?_⟩
        have hD : D i = .agg [.lit (.int .i64 x0), .lit (.int .i64 x1), d3, d4] := by
          have := congrArg Prod.fst hxy
          simpa using this
        rw [hD, List.all_eq_true] at hw
        have ew : ∀ k, k ∈ d3.weights Tryz.prog 53 ∨ k ∈ d4.weights Tryz.prog 41 → k ≤ reachBytes := by
          intro k hk
          have := hw k (by
            unfold DataW.weights
            rw [Tryz.underlying55]
            simp only [DataW.weightsEach, DataW.weights, List.map_cons, List.nil_append, List.mem_append]
            exact hk.imp_right .inl)
          simpa using this
        refine ⟨?_, ?_⟩
        · rcases len_weight (P := Tryz.prog) Tryz.underlying53 (n := dxs.length) (by rcases b5 with ⟨e1, e2⟩ | e; exact .inl ⟨e1, by rw [e2]; rfl⟩; exact .inr e) with e | ⟨k, hk, hle⟩
          · show dxs.length ≤ _; omega
          · rw [bytesB] at hle
            have := ew k (.inl hk)
            show dxs.length ≤ _
            omega
        · rcases len_weight (P := Tryz.prog) Tryz.underlying41 (n := cs.length) (by rcases z4 with ⟨e1, e2⟩ | e; exact .inl ⟨e1, by rw [e2]; rfl⟩; exact .inr e) with e | ⟨k, hk, hle⟩
          · show cs.length * 8 ≤ _; omega
          · rw [bytes3] at hle
            have := ew k (.inr hk)
            show cs.length * 8 ≤ _
            omega
    refine ⟨some ad, len, m, fun i => if hi : i < m then (each i hi).choose else ⟨0, 0, none, [], 0, none, [], 0⟩, rfl, fun i hi => ?_, fun hw i hi => ?_⟩
    · have him : i < m := by omega
      have hx := (each i him).choose_spec.1
      simp only [him, dif_pos]
      obtain ⟨b, o, e, q⟩ := hx
      exact ⟨b, o, by rw [e], q⟩
    · have him : i < m := by omega
      simp only [him, dif_pos]
      refine (each i him).choose_spec.2 ?_
      rw [List.all_eq_true] at hw ⊢
      intro k hk
      refine hw k ?_
      rw [e2.1]
      unfold DataW.weights
      rw [Tryz.underlying25]
      exact List.mem_cons_of_mem _ (List.mem_append_left _ (weights_all (List.mem_map.2 ⟨i, List.mem_range.2 hi, rfl⟩) hk))
end Go.Proofs.YtjnhcanohefjiaaGreatDoor
