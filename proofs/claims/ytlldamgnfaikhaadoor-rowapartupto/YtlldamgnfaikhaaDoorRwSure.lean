/- The walk of the law's 'sure'. -/
import Derived.Test.YtlldamgnfaikhaaDoorRwEnc
import Derived.Test.YtlldamgnfaikhaaDoorOAs
namespace Go.Proofs.YtlldamgnfaikhaaDoor
open Go.RowKit Go.Sort

def sureC : List Col := [⟨⟨#[107]⟩, 1, true, false⟩, ⟨⟨#[115]⟩, 2, false, true⟩]
def sureV : List Val := [⟨1, -1, ⟨#[]⟩, false⟩, vZ]
def sureN : List Val := [vZ, vZ]
theorem sure_chk : chkR sureC sureV = 0 := by decide
theorem sure_null : chkR sureC sureN = 33 := by decide
theorem sure_row : rowB sureV = [1, 1, 0] := by
  have : zz (-1) = 1 := by decide
  simp [rowB, sureV, layV, vZ, this, enc_lt]
theorem inC8_new (w : World) (c d : Col) (ty : TypeId) : ColsIn (w.alloc (.cells #[.string c.nm, .int .i64 c.k, .bool c.key, .bool c.nul, .string d.nm, .int .i64 d.k, .bool d.key, .bool d.nul] ty)) (some ⟨w.heap.size, 0, none⟩) [c, d] := by
  intro i hi
  have hi2 : i < 2 := hi
  rcases (by omega : i = 0 ∨ i = 1) with rfl | rfl
  · exact ⟨_, 0, rfl, by refine ⟨?_, ?_, ?_, ?_⟩ <;> simp [go_sem]⟩
  · exact ⟨_, 0, rfl, by refine ⟨?_, ?_, ?_, ?_⟩ <;> simp [go_sem]⟩
theorem inV8_new (w : World) (c d : Val) (ty : TypeId) : ValsIn (w.alloc (.cells #[.int .i64 c.k, .int .i64 c.n, .string c.t, .bool c.b, .int .i64 d.k, .int .i64 d.n, .string d.t, .bool d.b] ty)) (some ⟨w.heap.size, 0, none⟩) [c, d] := by
  obtain ⟨h1, h2⟩ := in8_new w c.k c.n c.t c.b d.k d.n d.t d.b ty
  intro i hi
  have hi2 : i < 2 := hi
  rcases (by omega : i = 0 ∨ i = 1) with rfl | rfl
  · exact ⟨_, 0, rfl, h1⟩
  · exact ⟨_, 0, rfl, h2⟩
/-- The law's table lies there. -/
def SurC (w : World) : World := w.alloc (.cells #[.string ⟨#[107]⟩, .int .i64 1, .bool true, .bool false, .string ⟨#[115]⟩, .int .i64 2, .bool false, .bool true] 45)
def SurT (w : World) : World := (SurC w).alloc (.cells #[.string ⟨#[]⟩, .slice (some ⟨w.heap.size, 0, none⟩) 2 2] 24)
def SurV (w : World) : World := (SurT w).alloc (.cells #[.int .i64 1, .int .i64 (-1), .string ⟨#[]⟩, .bool false, .int .i64 0, .int .i64 0, .string ⟨#[]⟩, .bool false] 47)
theorem sur_size (w : World) : (SurT w).heap.size = w.heap.size + 1 + 1 := by simp [SurT, SurC]
theorem sur_sizeC (w : World) : (SurC w).heap.size = w.heap.size + 1 := by simp [SurC]
theorem sur_below (w : World) : Below w.heap.size w (SurV w) := below_step (below_step (below_alloc1 _ _) (below_alloc1 _ _)) (below_alloc1 _ _)
theorem sur_cols (w : World) : ColsIn (SurV w) (some ⟨w.heap.size, 0, none⟩) sureC := by
  have h := inC8_new w ⟨⟨#[107]⟩, 1, true, false⟩ ⟨⟨#[115]⟩, 2, false, true⟩ 45
  exact (h.on (below_alloc1 _ _)).on (below_alloc1 _ _)
theorem sur_tab (w : World) : InT (SurV w) (w.heap.size + 1) ⟨#[]⟩ (some ⟨w.heap.size, 0, none⟩) 2 2 := by
  have h := inT_new (SurC w) ⟨#[]⟩ (some ⟨w.heap.size, 0, none⟩) 2 2 24
  rw [sur_sizeC] at h
  exact h.on (below_alloc1 _ _)
theorem sur_vals (w : World) : ValsIn (SurV w) (some ⟨w.heap.size + 1 + 1, 0, none⟩) sureV := by
  have h := inV8_new (SurT w) ⟨1, -1, ⟨#[]⟩, false⟩ vZ 47
  rw [sur_size] at h
  exact h
theorem sure_enc (w : World) : Calls Tryd.prog 6 #[.agg #[.string ⟨#[]⟩, .slice (some ⟨w.heap.size, 0, none⟩) 2 2], .slice (some ⟨w.heap.size + 1 + 1, 0, none⟩) 2 2] (SurV w) fun e w' => ∃ a1 c1, e = .returned (.tuple #[.slice a1 3 c1, .nilIface]) ∧ BytesIn w' a1 [1, 1, 0] ∧ Below (SurV w).heap.size (SurV w) w' := by
  refine (rencode_ ⟨#[]⟩ (some ⟨w.heap.size, 0, none⟩) 2 sureC (some ⟨w.heap.size + 1 + 1, 0, none⟩) 2 sureV (SurV w) (sur_cols w) (sur_vals w) (fun x hx => ?_) (by decide) (by decide)).mono ?_
  · simp only [sureV, List.mem_cons, List.not_mem_nil, or_false] at hx
    rcases hx with rfl | rfl
    · exact ⟨by decide, by decide⟩
    · exact inI_zero
  · rintro e w' ⟨v, rfl, ho, hb⟩
    rw [if_pos sure_chk, sure_row] at ho
    obtain ⟨a1, c1, rfl, hin, _⟩ := ho.bytes
    exact ⟨a1, c1, by rw [sure_chk]; rfl, hin, hb⟩
theorem sure_check (w w1 : World) (hb : Below (SurV w).heap.size (SurV w) w1) : Calls Tryd.prog 16 #[.agg #[.string ⟨#[]⟩, .slice (some ⟨w.heap.size, 0, none⟩) 2 2], .slice (some ⟨w1.heap.size, 0, none⟩) 2 2] (w1.alloc (.cells #[.int .i64 0, .int .i64 0, .string ⟨#[]⟩, .bool false, .int .i64 0, .int .i64 0, .string ⟨#[]⟩, .bool false] 47)) fun e w' => e = .returned (.iface 57 (.int .i64 33)) ∧ Below w.heap.size w w' := by
  have h1 := ((sur_cols w).on hb).on (below_alloc1 w1 (.cells #[.int .i64 0, .int .i64 0, .string ⟨#[]⟩, .bool false, .int .i64 0, .int .i64 0, .string ⟨#[]⟩, .bool false] 47))
  refine (check_ ⟨#[]⟩ (some ⟨w.heap.size, 0, none⟩) 2 sureC (some ⟨w1.heap.size, 0, none⟩) 2 sureN _ h1 (inV8_new w1 vZ vZ 47) (by decide) (by decide)).mono ?_
  rintro e w' ⟨rfl, hb2⟩
  exact ⟨by rw [sure_null]; rfl, below_step (below_step (below_step (sur_below w) hb) (below_alloc1 _ _)) hb2⟩
set_option maxRecDepth 100000 in
set_option maxHeartbeats 1000000 in
theorem sure_ (w : World) (hE : ErrType w) : Calls Tryd.prog 13 #[] w fun e w' => e = .returned (.bool true) ∧ Below w.heap.size w w' := by
  have HE := Lib.hid (sure_enc w)
  have HT := Lib.hid (sur_tab w)
  have HC := Lib.hid (sure_check w)
  have HEr := Lib.hid hE
  have HN : Hid (∀ W, ErrType W → Calls Tryd.prog 11 #[.iface 57 (.int .i64 33)] W fun e w' => e = .returned (.int .i64 33) ∧ Below W.heap.size W w') := fun W hW => num_ 33 W hW
  clear hE
  unfold SurV SurT SurC at HE
  go_enter Tryd.func13, Tryd.ntmps13
  go_wp2_with fail
  refine HE.out.mono ?_
  rintro e w1 ⟨a1, c1, rfl, hin, hb1⟩
  have hb : Below (SurV w).heap.size (SurV w) w1 := hb1
  have kv := conv_ w1 a1 3 c1 [1, 1, 0] rfl hin
  rw [show bs [1, 1, 0] = ⟨#[1, 1, 0]⟩ from rfl] at kv
  obtain ⟨s0, s1⟩ := HT.out.on hb
  have HC1 := Lib.hid (HC.out w1 hb)
  clear hb1 hin HE HT HC hb
  go_wp2_with fail
  refine HC1.out.mono ?_
  rintro e w2 ⟨rfl, hb2⟩
  have HB2 := Lib.hid hb2
  have HN2 := Lib.hid (HN.out w2 (HEr.out.on hb2))
  clear hb2 HC1 HN kv s0 s1
  go_wp2_with fail
  refine HN2.out.mono ?_
  rintro e w3 ⟨rfl, hb3⟩
  have HB3 := Lib.hid (below_step HB2.out hb3)
  clear hb3
  go_wp2_with fail
  go_ret
  exact ⟨rfl, HB3.out⟩
end Go.Proofs.YtlldamgnfaikhaaDoor
