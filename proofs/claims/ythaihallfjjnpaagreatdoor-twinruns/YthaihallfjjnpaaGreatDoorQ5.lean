/- The document's Save: what no text is saved of. -/
import Derived.Test.YthaihallfjjnpaaGreatDoorQ4
namespace Go.Proofs.YthaihallfjjnpaaGreatDoor
open Go.RowKit Go.Sort Go.Maps

theorem below3w (w : World) (o o' o'' : Obj) : Below w.heap.size w (((w.alloc o).alloc o').alloc o'') := below_step (below_two w o o') (below_alloc _ _)
theorem heap3w (w : World) (o o' o'' : Obj) : (((w.alloc o).alloc o').alloc o'').heap[w.heap.size]? = some o ∧ (((w.alloc o).alloc o').alloc o'').heap[w.heap.size + 1]? = some o' ∧ (((w.alloc o).alloc o').alloc o'').heap[w.heap.size + 1 + 1]? = some o'' := by
  refine ⟨alloc_old (heap_two w o o').2, alloc_old (heap_two w o o').1, ?_⟩
  have := alloc_at ((w.alloc o).alloc o') o''
  simpa using this
theorem six_one (r s lf : Int) (a : Option Addr) (n c : Nat) (cr ar : Bool) : (#[.int .i64 r, .int .i64 s, .slice a n c, .bool cr, .bool ar, .int .i64 lf] : Array Value).all (·.oneCell') = true := by simp [Value.oneCell']
theorem lst_setRow {V : World} {B : Nat} {old cs : Array Value} {a : Option Addr} {c : Nat} {l : List RS} {z : Nat × Nat} (hl : LstS V a c l) (hg : V.heap[B]? = some (.cells old 32 z)) : LstS (V.setRow B cs) a c l :=
  hl.stay fun k q z' hk => setRow_other V B k cs (fun e => by
    rw [e, hg] at hk
    simp only [Option.some.injEq, Obj.cells.injEq] at hk
    exact absurd hk.2.1 (by decide))
/-- What Save hands back. -/
def RSvTo (w : World) (d : Dev) (a : Ar) (xs : List Nat) (e : Ending) (w' : World) : Prop :=
  ∃ x' a' c', e = .returned (.tuple #[rdV x' a' c', .int .i64 (saveE d a xs : Nat)]) ∧ LstS w' a' c' x'.l ∧ Tie (saveD d a xs) x' ∧ Below w.heap.size w w'
/-- A device of the document's stored into the block that is handed back. -/
theorem rsv_end {w V : World} {B : Nat} {x : RD} {al : Option Addr} {cl : Nat} {d : Dev} {a : Ar} {xs : List Nat} {old : Array Value} (hl : LstS V al cl x.l) (ht : Tie (saveD d a xs) x) (hb : Below w.heap.size w V) (hg : V.heap[B]? = some (.cells old 32 (0, 0))) (hB : w.heap.size ≤ B) :
    (V.setRow B (rdC x al x.l.length cl)).heap[B]? = some (.cells (rdC x al x.l.length cl) 32 (0, 0)) ∧ RSvTo w d a xs (.returned (.tuple #[rdV x al cl, .int .i64 (saveE d a xs : Nat)])) (V.setRow B (rdC x al x.l.length cl)) :=
  ⟨setRow_heap V B _ _ 32 (0, 0) hg, x, al, cl, rfl, lst_setRow hl hg, ht, below_setRow hb hB⟩
set_option maxRecDepth 100000 in
set_option maxHeartbeats 2000000 in
theorem rsave_err {w : World} (x : RD) (al : Option Addr) (cl : Nat) (d : Dev) (a : Ar) (xs : List Nat) (h : Rdv w x al cl d) (hr : inR a) (he : lookE d a ≠ 0) :
    Calls Tryz.prog 16 #[rdV x al cl, arV a, .string (bs xs)] w (RSvTo w d a xs) := by
  have HB : Hid (∀ V, Below w.heap.size w V → Calls Tryz.prog 10 #[rdV x al cl, arV a] V fun e w' => e = .returned (.tuple #[.int .u64 (bN d a 0 : Nat), .string (bs (bT d a 0)), .int .u64 (bN d a 1 : Nat), .string (bs (bT d a 1)), .int .i64 (lookE d a : Nat)]) ∧ Below V.heap.size V w') := fun V hV => rboth_ x al cl d a (h.on hV) hr
  have hrdV : rdV x al cl = .agg #[.int .i64 x.r, .int .i64 x.s, .slice al x.l.length cl, .bool x.crashed, .bool x.armed, .int .i64 x.left] := rfl
  have hrdC : rdC x al x.l.length cl = #[.int .i64 x.r, .int .i64 x.s, .slice al x.l.length cl, .bool x.crashed, .bool x.armed, .int .i64 x.left] := rfl
  have hD : saveD d a xs = d := if_pos (.inl he)
  have hE : saveE d a xs = lookE d a := if_pos he
  have HEnd : Hid (∀ V old, Below w.heap.size w V → V.heap[w.heap.size + 1 + 1]? = some (.cells old 32 (0, 0)) → _) := fun V old hb hg => rsv_end (w := w) (xs := xs) (a := a) (h.ls.on hb) (by rw [hD]; exact h.tie) hb hg (by omega)
  rw [hE, hrdV, hrdC] at HEnd
  rw [hrdV] at HB ⊢
  obtain ⟨W, hW⟩ : ∃ W, W = ((w.alloc (.cells #[.int .i64 x.r, .int .i64 x.s, .slice al x.l.length cl, .bool x.crashed, .bool x.armed, .int .i64 x.left] 32)).alloc (.cells #[.int .i64 a.g, .int .i64 a.f, .int .i64 a.s] 23)).alloc (.cells #[.int .i64 0, .int .i64 0, .slice none 0 0, .bool false, .bool false, .int .i64 0] 32) := ⟨_, rfl⟩
  have HX : Hid (W.heap[w.heap.size]? = some (.cells #[.int .i64 x.r, .int .i64 x.s, .slice al x.l.length cl, .bool x.crashed, .bool x.armed, .int .i64 x.left] 32 (0, 0)) ∧ W.heap[w.heap.size + 1 + 1]? = some (.cells #[.int .i64 0, .int .i64 0, .slice none 0 0, .bool false, .bool false, .int .i64 0] 32 (0, 0)) ∧ Below w.heap.size w W) := by
    rw [hW]; exact ⟨(heap3w w _ _ _).1, (heap3w w _ _ _).2.2, below3w w _ _ _⟩
  have HW := Lib.hid hW
  clear hW h hr hrdV hrdC hD hE
  generalize bN d a 0 = n0 at *
  generalize bN d a 1 = n1 at *
  generalize bT d a 0 = t0 at *
  generalize bT d a 1 = t1 at *
  generalize lookE d a = LE at *
  generalize x.l.length = L at *
  generalize x.r = xr at *
  generalize x.s = xs' at *
  generalize x.crashed = xc at *
  generalize x.armed = xa at *
  generalize x.left = xf at *
  unfold arV at *
  have hne : ((LE : Int) == 0) = false := by simp; omega
  go_enter Tryz.func16, Tryz.ntmps16
  go_wp2_with fail
  rw [← HW.out]
  refine (HB.out W HX.out.2.2).mono ?_
  rintro e w1 ⟨rfl, hb1⟩
  have HLd := Lib.hid (load_rd ((hb1.block _ (blk_lt HX.out.1)).trans HX.out.1) rfl)
  have hg := (hb1.block _ (blk_lt HX.out.2.1)).trans HX.out.2.1
  have HSt := Lib.hid (store_rd (cs := #[.int .i64 xr, .int .i64 xs', .slice al L cl, .bool xc, .bool xa, .int .i64 xf]) hg rfl rfl (six_one _ _ _ _ _ _ _ _))
  have HF := Lib.hid (HEnd.out w1 _ (below_step HX.out.2.2 hb1) hg)
  clear hb1 HB HX HW hg
  go_wp2_with (first | (refine wpList_load_at rfl 32 _ rfl _ _ rfl HLd.out ?_) | (refine wpList_store_at rfl 32 _ _ rfl _ _ rfl rfl HSt.out ?_) | fail)
  exact bodyPost_ret (results_rd rfl _ _ (w.heap.size + 1 + 1) _ (.int .i64 (LE : Nat)) rfl rfl HF.out.1 rfl) rfl HF.out.2
set_option maxRecDepth 100000 in
set_option maxHeartbeats 2000000 in
theorem rsave_long {w : World} (x : RD) (al : Option Addr) (cl : Nat) (d : Dev) (a : Ar) (xs : List Nat) (h : Rdv w x al cl d) (hr : inR a) (he : lookE d a = 0) (hlong : roomA a < xs.length) :
    Calls Tryz.prog 16 #[rdV x al cl, arV a, .string (bs xs)] w (RSvTo w d a xs) := by
  have HB : Hid (∀ V, Below w.heap.size w V → Calls Tryz.prog 10 #[rdV x al cl, arV a] V fun e w' => e = .returned (.tuple #[.int .u64 (bN d a 0 : Nat), .string (bs (bT d a 0)), .int .u64 (bN d a 1 : Nat), .string (bs (bT d a 1)), .int .i64 (lookE d a : Nat)]) ∧ Below V.heap.size V w') := fun V hV => rboth_ x al cl d a (h.on hV) hr
  have HRm : Hid (∀ V, Calls Tryz.prog 13 #[arV a] V fun e w' => e = .returned (.int .i64 (roomA a)) ∧ Below V.heap.size V w') := fun V => rroom_ a V hr.2.2
  have hrdV : rdV x al cl = .agg #[.int .i64 x.r, .int .i64 x.s, .slice al x.l.length cl, .bool x.crashed, .bool x.armed, .int .i64 x.left] := rfl
  have hrdC : rdC x al x.l.length cl = #[.int .i64 x.r, .int .i64 x.s, .slice al x.l.length cl, .bool x.crashed, .bool x.armed, .int .i64 x.left] := rfl
  have hD : saveD d a xs = d := if_pos (.inr hlong)
  have hE : saveE d a xs = 2 := by unfold saveE; rw [if_neg (by simpa using he), if_pos hlong]
  have HEnd : Hid (∀ V old, Below w.heap.size w V → V.heap[w.heap.size + 1 + 1]? = some (.cells old 32 (0, 0)) → _) := fun V old hb hg => rsv_end (w := w) (xs := xs) (a := a) (h.ls.on hb) (by rw [hD]; exact h.tie) hb hg (by omega)
  rw [hE, hrdV, hrdC] at HEnd
  rw [hrdV, he] at HB
  rw [hrdV]
  obtain ⟨W, hW⟩ : ∃ W, W = ((w.alloc (.cells #[.int .i64 x.r, .int .i64 x.s, .slice al x.l.length cl, .bool x.crashed, .bool x.armed, .int .i64 x.left] 32)).alloc (.cells #[.int .i64 a.g, .int .i64 a.f, .int .i64 a.s] 23)).alloc (.cells #[.int .i64 0, .int .i64 0, .slice none 0 0, .bool false, .bool false, .int .i64 0] 32) := ⟨_, rfl⟩
  have HX : Hid (W.heap[w.heap.size]? = some (.cells #[.int .i64 x.r, .int .i64 x.s, .slice al x.l.length cl, .bool x.crashed, .bool x.armed, .int .i64 x.left] 32 (0, 0)) ∧ W.heap[w.heap.size + 1 + 1]? = some (.cells #[.int .i64 0, .int .i64 0, .slice none 0 0, .bool false, .bool false, .int .i64 0] 32 (0, 0)) ∧ Below w.heap.size w W ∧ ArAtR W (w.heap.size + 1) a) := by
    rw [hW]; exact ⟨(heap3w w _ _ _).1, (heap3w w _ _ _).2.2, below3w w _ _ _, (heap3w w _ _ _).2.1⟩
  have HW := Lib.hid hW
  clear hW h hr hrdV hrdC hD hE
  have hsz : (bs xs).size = xs.length := bs_size xs
  generalize bN d a 0 = n0 at *
  generalize bN d a 1 = n1 at *
  generalize bT d a 0 = t0 at *
  generalize bT d a 1 = t1 at *
  generalize x.l.length = L at *
  generalize x.r = xr at *
  generalize x.s = xs' at *
  generalize x.crashed = xc at *
  generalize x.armed = xa at *
  generalize x.left = xf at *
  generalize xs.length = n at *
  generalize bs xs = S at *
  generalize roomA a = R at *
  have hgt : (n : Int) > R := by omega
  unfold arV at *
  go_enter Tryz.func16, Tryz.ntmps16
  go_wp2_with fail
  rw [← HW.out]
  refine (HB.out W HX.out.2.2.1).mono ?_
  rintro e w1 ⟨rfl, hb1⟩
  obtain ⟨y0, y1, y2⟩ := (HX.out.2.2.2.on hb1).cells
  have HB1 := Lib.hid hb1
  clear hb1 HB HW
  go_wp2_with fail
  refine (HRm.out w1).mono ?_
  rintro e w2 ⟨rfl, hb2⟩
  have hb12 := below_step HB1.out hb2
  have HLd := Lib.hid (load_rd ((hb12.block _ (blk_lt HX.out.1)).trans HX.out.1) rfl)
  have hg := (hb12.block _ (blk_lt HX.out.2.1)).trans HX.out.2.1
  have HSt := Lib.hid (store_rd (cs := #[.int .i64 xr, .int .i64 xs', .slice al L cl, .bool xc, .bool xa, .int .i64 xf]) hg rfl rfl (six_one _ _ _ _ _ _ _ _))
  have HF := Lib.hid (HEnd.out w2 _ (below_step HX.out.2.2.1 hb12) hg)
  clear hb2 hb12 HRm HX hg y0 y1 y2
  go_wp2_with (first | (refine wpList_load_at rfl 32 _ rfl _ _ rfl HLd.out ?_) | (refine wpList_store_at rfl 32 _ _ rfl _ _ rfl rfl HSt.out ?_) | fail)
  exact bodyPost_ret (results_rd rfl _ _ (w.heap.size + 1 + 1) _ (.int .i64 2) rfl rfl HF.out.1 rfl) rfl HF.out.2
end Go.Proofs.YthaihallfjjnpaaGreatDoor
