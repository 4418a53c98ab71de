/- The walk of the law's 'twin', and that its columns may be written. -/
import Derived.Test.YtlgnllnjhpihdaaDoorTbTabs
namespace Go.Proofs.YtlgnllnjhpihdaaDoor
open Go.RowKit Go.Sort

set_option maxRecDepth 100000 in
set_option maxHeartbeats 1000000 in
theorem twinF_ (nm : ByteArray) (a : Option Addr) (c : Nat) (cs : List Col) (w : World) (h : ColsIn w a cs) (hnil : a = none → c = 0) (hlen : cs.length * 32 ≤ 140737488355328) :
    Calls Tryd.prog 7 #[.agg #[.string nm, .slice a cs.length c]] w (TwinF w nm cs cs.length) := by
  obtain ⟨W1, hW1⟩ : ∃ W1, W1 = (w.alloc (.cells #[.string nm, .slice a cs.length c] 24)).alloc (.cells #[.string ⟨#[]⟩, .slice none 0 0] 24) := ⟨_, rfl⟩
  have hB1 : Below w.heap.size w W1 := by rw [hW1]; exact below_step (below_alloc1 _ _) (below_alloc1 _ _)
  have hsz : W1.heap.size = w.heap.size + 1 + 1 := by rw [hW1]; simp
  have HT1 : Hid (TbB W1 w.heap.size nm (.slice a cs.length c)) := by show TbB _ _ _ _; rw [hW1]; exact (tbB_new _ _ _ _ _ _).on (below_alloc1 _ _)
  have HT2 : Hid (TbB W1 (w.heap.size + 1) ⟨#[]⟩ (.slice none 0 0)) := by
    show TbB _ _ _ _
    have := tbB_new (w.alloc (.cells #[.string nm, .slice a cs.length c] 24)) ⟨#[]⟩ none 0 0 24
    rw [hW1]; simpa using this
  obtain ⟨a3, n3, c3, V3, hap, ho, hb3⟩ := app_nil (h.on hB1) hnil hlen 22
  have HW1 := Lib.hid hW1.symm
  have HB3 : Hid (Below w.heap.size w V3) := below_step hB1 hb3
  have HT3 := Lib.hid (HT1.out.on hb3)
  have HT4 := Lib.hid (HT2.out.on hb3)
  have HO : Hid (OwnC V3 (w.heap.size + 1 + 1) (.slice a3 n3 c3) cs) := by rw [hsz] at ho; exact ho
  have HR : Hid (TwinF w nm cs cs.length (.returned (.agg #[.string nm, .slice a3 n3 c3])) (((V3.setCell ⟨w.heap.size, 1, none⟩ (.slice a3 n3 c3)).setCell ⟨w.heap.size + 1, 0, none⟩ (.string nm)).setCell ⟨w.heap.size + 1, 1, none⟩ (.slice a3 n3 c3))) := by
    have hO := ((HO.out.set (B := w.heap.size) (o := 1) (u := .slice a3 n3 c3) (by omega)).set (B := w.heap.size + 1) (o := 0) (u := .string nm) (by omega)).set (B := w.heap.size + 1) (o := 1) (u := .slice a3 n3 c3) (by omega)
    obtain ⟨q1, q2, q3, q4⟩ := hO.cap
    obtain ⟨a', c', e, hc, _⟩ := hO.cols
    simp only [Value.slice.injEq] at e
    obtain ⟨rfl, rfl, rfl⟩ := e
    exact ⟨_, _, rfl, ⟨hc, q2, q3, (fun b o e => (by have := q4 b o e; omega)), hO.free⟩, ((HB3.out.setCell (Nat.le_refl _) _).setCell (Nat.le_succ _) _).setCell (Nat.le_succ _) _⟩
  generalize TwinF w nm cs cs.length = Q at *
  generalize cs.length = L at *
  rw [← HW1.out] at hap
  clear h hnil hlen hW1 hB1 hsz ho hb3 HO HT1 HT2 HW1
  go_enter Tryd.func7, Tryd.ntmps7
  go_wp2_with (first | (refine wpList_exec rfl (exec_append rfl rfl rfl hap) ?_
                        clear hap
                        obtain ⟨s0, s1, g0, g1⟩ := HT3.out
                        obtain ⟨t0, t1, k0, k1⟩ := HT4.out) | fail)
  refine bodyPost_ret (v := .agg #[.string nm, .slice a3 n3 c3]) ?_ rfl HR.out
  simp [results, Tryd.results7, go_sem, t0, t1]
end Go.Proofs.YtlgnllnjhpihdaaDoor
