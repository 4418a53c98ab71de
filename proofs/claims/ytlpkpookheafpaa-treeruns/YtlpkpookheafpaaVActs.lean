/- What is done to a tree, among the arguments, opened. -/
import Derived.Test.YtlpkpookheafpaaVRowS
namespace Go.Proofs.Ytlpkpookheafpaa
open Go.ChangeShapes Go.WideShapes Go.ChangeAt Go.RowKit

/-- Something done to a tree. -/
structure ActV where
  kind : Int
  key : ByteArray
  val : ByteArray
/-- What is done, behind a slice. -/
def ActsAt (w : World) (a : Option Addr) (n : Nat) (f : Nat → ActV) : Prop := ∀ i, i < n → (∃ b o, a = some ⟨b, o, none⟩ ∧ w.cell? ⟨b, o + i * 3, none⟩ = some (.int .i64 (f i).kind) ∧ w.cell? ⟨b, o + i * 3 + 1, none⟩ = some (.string (f i).key) ∧ w.cell? ⟨b, o + i * 3 + 2, none⟩ = some (.string (f i).val)) ∧ -9223372036854775808 ≤ (f i).kind ∧ (f i).kind ≤ 9223372036854775807
theorem ActsAt.on {w w' : World} {N : Nat} {a : Option Addr} {n : Nat} {f : Nat → ActV} (h : ActsAt w a n f) (hN : N = w.heap.size) (hb : Below N w w') : ActsAt w' a n f := by
  intro i hi
  obtain ⟨⟨b, o, e, h1, h2, h3⟩, h4⟩ := h i hi
  exact ⟨⟨b, o, e, (hb.cell (by rw [hN]; exact block_lt_of_cell h1)).trans h1, (hb.cell (by rw [hN]; exact block_lt_of_cell h2)).trans h2, (hb.cell (by rw [hN]; exact block_lt_of_cell h3)).trans h3⟩, h4⟩
theorem i64_lim {x : Int} (h : (Lit.int .i64 x).wf = true) : -9223372036854775808 ≤ x ∧ x ≤ 9223372036854775807 := by
  simp only [Lit.wf, Bool.and_eq_true, decide_eq_true_eq] at h
  exact h
theorem cellsA : Try.prog.cellsOf 27 = 3 := by kernel_rfl
set_option maxRecDepth 100000 in
/-- Things done that are handed in. -/
theorem open_acts {H : Type} {enc : TypeId × Value → H} {W : World} {base : Nat} {v : Value} {d : DataW H} {p : List MemPlace}
    (hv : Value.okWide Try.prog W .any base 22 v) (h : DataW.Trod enc Try.prog W 0 (fun _ => true) true 22 v d p) :
    ∃ (a : Option Addr) (n c : Nat) (f : Nat → ActV), v = .slice a n c ∧ ActsAt W a n f := by
  obtain ⟨a, len, cap, rfl⟩ := okWide_slice Try.underlying22 hv
  obtain ⟨fuel, h⟩ := h
  have h' : DataW.trod enc Try.prog W 0 (fun _ => true) true fuel 22 [.slice a len cap] = some (d, p) := by simpa [Value.cells] using h
  rcases Deep.open_slice Try.underlying22 h' with ⟨e1, e2⟩ | ⟨ad, len', cap', m, n, D, Pl, e1, _, hl, hcm, hm, e2, hc⟩
  · simp only [List.cons.injEq, and_true, Value.slice.injEq] at e1
    obtain ⟨rfl, rfl, rfl⟩ := e1
    exact ⟨none, 0, 0, fun _ => ⟨0, ⟨#[]⟩, ⟨#[]⟩⟩, rfl, fun i hi => by omega⟩
  · simp only [List.cons.injEq, and_true, Value.slice.injEq] at e1
    obtain ⟨rfl, rfl, rfl⟩ := e1
    simp only [if_true] at hm
    subst hm
    have each : ∀ i, i < m → ∃ x : ActV, -9223372036854775808 ≤ x.kind ∧ x.kind ≤ 9223372036854775807 ∧ ∃ b o, ad = ⟨b, o, none⟩ ∧ W.cell? ⟨b, o + i * 3, none⟩ = some (.int .i64 x.kind) ∧ W.cell? ⟨b, o + i * 3 + 1, none⟩ = some (.string x.key) ∧ W.cell? ⟨b, o + i * 3 + 2, none⟩ = some (.string x.val) := by
      intro i hi
      obtain ⟨cs', h1, h2⟩ := hc i hi
      rw [cellsA] at h1
      obtain ⟨_, hlen, hcell⟩ := World.cells?_some h1
      obtain ⟨xs, k, _, hxy, _, hxl, hf⟩ := DataW.trod_struct Try.underlying27 h2
      match xs, hxl, cs', hlen with
      | [y0, y1, y2], _, [v0, v1, v2], _ =>
        have c3 : Try.prog.cellsOf 3 = 1 := by kernel_rfl
        have g0 := hf 0 _ rfl
        have g1 := hf 1 _ rfl
        have g2 := hf 2 _ rfl
        simp [c3, cells9] at g0 g1 g2
        obtain ⟨x0, f0, rfl, w0⟩ := DataW.trod_int Try.underlying3 g0
        obtain ⟨x1, f1, _⟩ := DataW.trod_string Try.underlying9 g1
        obtain ⟨x2, f2, _⟩ := DataW.trod_string Try.underlying9 g2
        simp at f0 f1 f2
        subst f0 f1 f2
        obtain ⟨b, o, sp⟩ := ad
        have k0 := hcell 0 (by simp)
        have k1 := hcell 1 (by simp)
        have k2 := hcell 2 (by simp)
        have hsp : sp = none := by
          obtain ⟨cs0, z1, _⟩ := hc 0 (by omega)
          rw [cellsA] at z1
          obtain ⟨_, zl, zc⟩ := World.cells?_some z1
          have z0 := zc 0 (by omega)
          exact plain_addr (b := b) (o := o) (z0.trans (List.getElem?_eq_getElem (by omega)))
        subst hsp
        simp only [Addr.add_lit] at k0 k1 k2
        exact ⟨⟨x0, x1, x2⟩, (i64_lim w0).1, (i64_lim w0).2, b, o, rfl, by simpa using k0, by simpa [Nat.add_assoc] using k1, by simpa [Nat.add_assoc] using k2⟩
    refine ⟨some ad, len, m, fun i => if hi : i < m then (each i hi).choose else ⟨0, ⟨#[]⟩, ⟨#[]⟩⟩, rfl, fun i hi => ?_⟩
    have him : i < m := by omega
    have hx := (each i him).choose_spec
    simp only [him, dif_pos]
    obtain ⟨q1, q2, b, o, e, q3, q4, q5⟩ := hx
    exact ⟨⟨b, o, by rw [e], q3, q4, q5⟩, q1, q2⟩
end Go.Proofs.Ytlpkpookheafpaa
