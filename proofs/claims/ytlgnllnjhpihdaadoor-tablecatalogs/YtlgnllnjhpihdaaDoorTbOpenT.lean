/- A list of tables among the arguments opened; how much there is of it. -/
import Derived.Test.YtlgnllnjhpihdaaDoorTbLim
import Derived.Test.YtlgnllnjhpihdaaDoorTbTabs
namespace Go.Proofs.YtlgnllnjhpihdaaDoor
open Go.ChangeShapes Go.WideShapes Go.ChangeAt Go.RowKit

/-- A table as data. -/
def IsDat {H : Type} (t : TV) (d : DataW H) : Prop := ∃ d1, d = .agg [.lit (.string t.nm.data.toList), d1] ∧ ((d1 = .nil ∧ t.cs = []) ∨ ∃ spare, d1 = .slice (t.cs.map datC) spare)
theorem bytesT : Tryd.prog.bytesOf 24 = 40 := by kernel_rfl
set_option maxRecDepth 100000 in
theorem open_tables {H : Type} {enc : TypeId × Value → H} {W : World} {base : Nat} {v : Value} {d : DataW H} {p : List MemPlace}
    (hv : Value.okWide Tryd.prog W .any base 47 v) (h : DataW.Trod enc Tryd.prog W 0 (fun _ => true) true 47 v d p) :
    ∃ (a : Option Addr) (ts : List TV) (c : Nat), v = .slice a ts.length c ∧ TabsIn W a ts ∧ ColsAll W ts ∧ ((d = .nil ∧ ts = []) ∨ ∃ ds spare, d = .slice ds spare ∧ ds.length = ts.length ∧ ∀ i (h : i < ts.length) (h2 : i < ds.length), IsDat ts[i] ds[i]) := by
  obtain ⟨a, len, cap, rfl⟩ := okWide_slice Tryd.underlying47 hv
  obtain ⟨fuel, h⟩ := h
  have h' : DataW.trod enc Tryd.prog W 0 (fun _ => true) true fuel 47 [.slice a len cap] = some (d, p) := by simpa [Value.cells] using h
  rcases Deep.open_slice Tryd.underlying47 h' with ⟨e1, e2⟩ | ⟨ad, len', cap', m, n, D, Pl, e1, _, hl, hcm, hm, e2, hc⟩
  · simp only [List.cons.injEq, and_true, Value.slice.injEq] at e1
    obtain ⟨rfl, rfl, rfl⟩ := e1
    simp only [Prod.mk.injEq] at e2
    exact ⟨none, [], 0, rfl, tabsIn_nil _ _, fun i hi => (by simp at hi), .inl ⟨e2.1, rfl⟩⟩
  · simp only [List.cons.injEq, and_true, Value.slice.injEq] at e1
    obtain ⟨rfl, rfl, rfl⟩ := e1
    simp only [if_true] at hm
    subst hm
    simp only [Prod.mk.injEq] at e2
    have each : ∀ i, i < m → ∃ x : TV, IsDat x (D i) ∧ ColsIn W x.a x.cs ∧ x.cs.length ≤ x.c ∧ (x.a = none → x.c = 0) ∧ ∃ b o, ad = ⟨b, o, none⟩ ∧ W.cell? ⟨b, o + i * 2, none⟩ = some (.string x.nm) ∧ W.cell? ⟨b, o + i * 2 + 1, none⟩ = some (.slice x.a x.cs.length x.c) := by
      intro i hi
      obtain ⟨cs', h1, h2⟩ := hc i hi
      rw [cellsT] at h1
      obtain ⟨_, hlen, hcell⟩ := World.cells?_some h1
      obtain ⟨xs, k, _, hxy, _, hxl, hf⟩ := DataW.trod_struct Tryd.underlying24 h2
      match xs, hxl, cs', hlen with
      | [y0, y1], _, [v0, v1], _ =>
        have c9 : Tryd.prog.cellsOf 9 = 1 := by kernel_rfl
        have c22 : Tryd.prog.cellsOf 22 = 1 := by kernel_rfl
        have g0 := hf 0 _ rfl
        have g1 := hf 1 _ rfl
        simp [c9, c22] at g0 g1
        obtain ⟨s0, e0, hy0, _⟩ := DataW.trod_string Tryd.underlying9 g0
        obtain ⟨ca, cs, ct, ec, hin, hnil, hcap, _, hcase⟩ := open_cols (d := y1.1) (p := y1.2) g1
        simp at e0
        subst e0 ec
        obtain ⟨b, o, sp⟩ := ad
        have k0 := hcell 0 (by simp)
        have k1 := hcell 1 (by simp)
        have hsp : sp = none := by
          obtain ⟨cs0, z1, _⟩ := hc 0 (by omega)
          rw [cellsT] at z1
          obtain ⟨_, zl, zc⟩ := World.cells?_some z1
          have z0 := zc 0 (by omega)
          exact plain_addr (b := b) (o := o) (z0.trans (List.getElem?_eq_getElem (by omega)))
        subst hsp
        simp only [Addr.add_lit] at k0 k1
        simp only [Prod.mk.injEq] at hxy
        refine ⟨⟨s0, ca, ct, cs⟩, ⟨y1.1, ?_, hcase⟩, hin, hcap, hnil, b, o, rfl, ?_, ?_⟩
        · have := hxy.1
          simp only [List.map_cons, List.map_nil] at this
          rw [this, hy0]
        · simpa using k0
        · simpa [Nat.add_assoc] using k1
    obtain ⟨f, hf⟩ := @Deep.choose_lt TV ⟨⟨⟨#[]⟩, none, 0, []⟩⟩ m _ each
    have hlen : ((List.range len).map f).length = len := by simp
    refine ⟨some ad, (List.range len).map f, m, by rw [hlen], ?_, ?_, .inr ⟨_, _, e2.1, by simp, ?_⟩⟩
    · intro i hi
      rw [hlen] at hi
      obtain ⟨_, _, _, _, b, o, rfl, h1, h2⟩ := hf i (by omega)
      refine ⟨b, o, rfl, ?_, ?_⟩
      · simp only [List.getElem_map, List.getElem_range]; exact h1
      · simp only [List.getElem_map, List.getElem_range]; exact h2
    · intro i hi
      rw [hlen] at hi
      obtain ⟨_, h1, h2, h3, _⟩ := hf i (by omega)
      simp only [List.getElem_map, List.getElem_range]
      exact ⟨h1, h2, h3⟩
    · intro i hi h2
      rw [hlen] at hi
      have := (hf i (by omega)).1
      simp only [List.getElem_map, List.getElem_range]
      exact this
theorem mem_all {H : Type} {e : TypeId} : ∀ (ds : List (DataW H)) (i : Nat) (h : i < ds.length) (n : Nat), n ∈ ds[i].weights Tryd.prog e → n ∈ DataW.weightsAll Tryd.prog e ds
  | [], i, h, _, _ => by simp at h
  | d :: r, 0, _, n, hn => by
    simp only [DataW.weightsAll, List.mem_append]
    exact .inl hn
  | d :: r, i + 1, h, n, hn => by
    simp only [DataW.weightsAll, List.mem_append]
    exact .inr (mem_all r i (by simpa using h) n hn)
/-- A table's own weights. -/
theorem dat_lim {H : Type} {t : TV} {d : DataW H} (hd : IsDat t d) (all : ∀ n ∈ d.weights Tryd.prog 24, n ≤ 140737488351232) : t.nm.size ≤ 140737488351232 ∧ t.cs.length * 32 ≤ 140737488351232 ∧ ∀ c ∈ t.cs, c.nm.size ≤ 140737488351232 := by
  obtain ⟨d1, rfl, hcase⟩ := hd
  refine ⟨?_, ?_, ?_⟩
  · have := all t.nm.data.toList.length (by simp [DataW.weights, DataW.weightsEach, Tryd.underlying24])
    rw [size_lst]; exact this
  · rcases hcase with ⟨_, h0⟩ | ⟨spare, rfl⟩
    · rw [h0]; simp
    · have := all (((t.cs.map (datC (H := H))).length + spare.length) * Tryd.prog.bytesOf 55) (by simp [DataW.weights, DataW.weightsEach, Tryd.underlying24, Tryd.underlying22])
      rw [bytesC, List.length_map] at this
      omega
  · intro c hc
    rcases hcase with ⟨_, h0⟩ | ⟨spare, rfl⟩
    · rw [h0] at hc; simp at hc
    · have hm := names_mem (H := H) t.cs c hc
      have := all c.nm.data.toList.length (by
        simp only [DataW.weights, DataW.weightsEach, Tryd.underlying24, Tryd.underlying22, List.map_cons, List.map_nil, List.mem_append, List.mem_cons, List.append_nil]
        exact .inr (.inr (.inl hm)))
      rw [size_lst]; exact this
theorem tabs_lim {H : Type} {ts : List TypeId} {ds : List (DataW H)} {d : DataW H} {tv : List TV} (h : (DataW.weightsEach Tryd.prog ts ds).all (· ≤ reachBytes) = true) {j : Nat} (ht : ts[j]? = some 47) (hd : ds[j]? = some d)
    (hcase : (d = .nil ∧ tv = []) ∨ ∃ es spare, d = .slice es spare ∧ es.length = tv.length ∧ ∀ i (h : i < tv.length) (h2 : i < es.length), IsDat tv[i] es[i]) :
    tv.length * 40 ≤ 140737488351232 ∧ ∀ t ∈ tv, t.nm.size ≤ 140737488351232 ∧ t.cs.length * 32 ≤ 140737488351232 ∧ ∀ c ∈ t.cs, c.nm.size ≤ 140737488351232 := by
  rcases hcase with ⟨_, rfl⟩ | ⟨es, spare, rfl, hl, hdat⟩
  · exact ⟨by simp, fun t ht => by simp at ht⟩
  · have e : reachBytes = 140737488351232 := by decide
    have all : ∀ n ∈ (DataW.slice es spare : DataW H).weights Tryd.prog 47, n ≤ 140737488351232 := fun n hn => by
      have := List.all_eq_true.1 h _ (DataW.weights_mem_each (P := Tryd.prog) ht hd n hn)
      simpa [e] using this
    refine ⟨?_, fun t ht => ?_⟩
    · have := all ((es.length + spare.length) * Tryd.prog.bytesOf 24) (by simp [DataW.weights, Tryd.underlying47])
      rw [bytesT, hl] at this
      omega
    · obtain ⟨i, hi, rfl⟩ := List.getElem_of_mem ht
      refine dat_lim (hdat i hi (by omega)) fun n hn => all n ?_
      simp only [DataW.weights, Tryd.underlying47, List.mem_cons, List.mem_append]
      exact .inr (.inl (mem_all es i (by omega) n hn))
end Go.Proofs.YtlgnllnjhpihdaaDoor
