/- The walk of the document's Meet. -/
import Derived.Test.YteeojhmdefhlmaaCuRMeet
namespace Go.Proofs.Yteeojhmdefhlmaa
open Go.RowKit Go.Sort

def stR (a b : Rg) : Nat → Rg
  | 0 => zeroR
  | 1 => stepR zeroR a
  | _ => stepR (stepR zeroR a) b
/-- What the loop keeps. -/
def MI (w : World) (n : Nat) (a b r : Rg) (V : World) : Prop := RB V n a ∧ RB V (n + 1) b ∧ V.heap[n + 1 + 1]? = some (.cells #[.string ⟨#[]⟩, .string ⟨#[]⟩, .bool false, .bool false, .bool false, .bool false] 23 (0, 0)) ∧ RB V (n + 1 + 1 + 1) r ∧ Below n w V
theorem RB.on {w w' : World} {g : Nat} {r : Rg} (h : RB w g r) (hb : Below w.heap.size w w') : RB w' g r := blkKeep hb h
theorem MI.alloc {w V : World} {n : Nat} {a b r : Rg} (h : MI w n a b r V) (o : Obj) : MI w n a b r (V.alloc o) :=
  ⟨h.1.on (below_alloc _ _), h.2.1.on (below_alloc _ _), blkKeep (below_alloc _ _) h.2.2.1, h.2.2.2.1.on (below_alloc _ _), h.2.2.2.2.trans ((below_alloc V o).mono (by have := blk_lt h.1; omega))⟩
theorem below_set {N : Nat} {W V : World} {p o : Nat} {v : Value} (h : Below N W V) (hp : N ≤ p) : Below N W (V.setCell ⟨p, o, none⟩ v) := h.setCell (p := ⟨p, o, none⟩) hp v
theorem MI.drew {w V : World} {n : Nat} {a b r : Rg} (h : MI w n a b r V) : MI w n a b r V.drew :=
  ⟨h.1.on (below_drew _), h.2.1.on (below_drew _), blkKeep (below_drew _) h.2.2.1, h.2.2.2.1.on (below_drew _), h.2.2.2.2.trans ((below_drew V).mono (by have := blk_lt h.1; omega))⟩
theorem RB.far3 {V : World} {g p : Nat} {x : Rg} {o1 o2 o3 : Nat} {a b c : Value} (h : RB V p x) (hp : p ≠ g) : RB (((V.setCell ⟨g, o1, none⟩ a).setCell ⟨g, o2, none⟩ b).setCell ⟨g, o3, none⟩ c) p x := ((heap_far _ hp).trans ((heap_far _ hp).trans (heap_far _ hp))).trans h
theorem far123 {V : World} {g p : Nat} {x : Rg} {os : Nat × Nat × Nat} {a b c : Value} (h : RB V p x) (hp : p ≠ g) : RgAt (V.setCell ⟨g, os.1, none⟩ a) p x ∧ RgAt ((V.setCell ⟨g, os.1, none⟩ a).setCell ⟨g, os.2.1, none⟩ b) p x ∧ RgAt (((V.setCell ⟨g, os.1, none⟩ a).setCell ⟨g, os.2.1, none⟩ b).setCell ⟨g, os.2.2, none⟩ c) p x := by
  have h1 : RB (V.setCell ⟨g, os.1, none⟩ a) p x := (heap_far _ hp).trans h
  have h2 : RB ((V.setCell ⟨g, os.1, none⟩ a).setCell ⟨g, os.2.1, none⟩ b) p x := (heap_far _ hp).trans h1
  have h3 : RB (((V.setCell ⟨g, os.1, none⟩ a).setCell ⟨g, os.2.1, none⟩ b).setCell ⟨g, os.2.2, none⟩ c) p x := (heap_far _ hp).trans h2
  exact ⟨h1.at, h2.at, h3.at⟩
theorem store_one {w : World} {g o : Nat} {v u : Value} (ty : TypeId) (hs : (sizeOf ty).run Try.prog w = .ok 1 w) (h1 : v.oneCell' = true) (hc : w.cell? ⟨g, o, none⟩ = some u) (hf : w.frozen? ⟨g, o, none⟩ = false) (hv : v.cells = #[v]) : (Instr.storeAt ty (.pointer (some ⟨g, o, none⟩)) v).run Try.prog w = .ok () (w.setCell ⟨g, o, none⟩ v) := by
  simp only [Instr.storeAt, Instr.sureAddr, Sem.run_bind, Sem.run_pure, Result.andThen]
  simp [storeVar, hs, hv, Result.andThen, storeCells, run_store _ _ _ _ _ h1, Addr.add_lit, hc, hf]
theorem st_next {w : World} {g o : Nat} {c : Array Value} {t : TypeId} (h : w.heap[g]? = some (.cells c t (0, 0))) {u : Value} (hu : c[o]? = some u) : w.cell? ⟨g, o, none⟩ = some u ∧ w.frozen? ⟨g, o, none⟩ = false := ⟨cell_of h hu, frozen_of h⟩
theorem stF {V : World} {g : Nat} {r : Rg} (h : RB V g r) (x : Rg) :
    (Instr.storeAt 9 (.pointer (some ⟨g, 0, none⟩)) (.string x.f)).run Try.prog V = .ok () (V.setCell ⟨g, 0, none⟩ (.string x.f)) ∧
    (Instr.storeAt 4 (.pointer (some ⟨g, 2, none⟩)) (.bool true)).run Try.prog (V.setCell ⟨g, 0, none⟩ (.string x.f)) = .ok () ((V.setCell ⟨g, 0, none⟩ (.string x.f)).setCell ⟨g, 2, none⟩ (.bool true)) ∧
    (Instr.storeAt 4 (.pointer (some ⟨g, 4, none⟩)) (.bool x.pf)).run Try.prog ((V.setCell ⟨g, 0, none⟩ (.string x.f)).setCell ⟨g, 2, none⟩ (.bool true)) = .ok () (((V.setCell ⟨g, 0, none⟩ (.string x.f)).setCell ⟨g, 2, none⟩ (.bool true)).setCell ⟨g, 4, none⟩ (.bool x.pf)) := by
  have h1 := heap_set (o := 0) (.string x.f) h
  have h2 := heap_set (o := 2) (.bool true) h1
  refine ⟨store_one 9 (by kernel_rfl) rfl (cell_of h rfl) (frozen_of h) rfl, store_one 4 (by kernel_rfl) rfl (cell_of h1 rfl) (frozen_of h1) rfl, store_one 4 (by kernel_rfl) rfl (cell_of h2 rfl) (frozen_of h2) rfl⟩
theorem stT {V : World} {g : Nat} {r : Rg} (h : RB V g r) (x : Rg) :
    (Instr.storeAt 9 (.pointer (some ⟨g, 1, none⟩)) (.string x.t)).run Try.prog V = .ok () (V.setCell ⟨g, 1, none⟩ (.string x.t)) ∧
    (Instr.storeAt 4 (.pointer (some ⟨g, 3, none⟩)) (.bool true)).run Try.prog (V.setCell ⟨g, 1, none⟩ (.string x.t)) = .ok () ((V.setCell ⟨g, 1, none⟩ (.string x.t)).setCell ⟨g, 3, none⟩ (.bool true)) ∧
    (Instr.storeAt 4 (.pointer (some ⟨g, 5, none⟩)) (.bool x.pt)).run Try.prog ((V.setCell ⟨g, 1, none⟩ (.string x.t)).setCell ⟨g, 3, none⟩ (.bool true)) = .ok () (((V.setCell ⟨g, 1, none⟩ (.string x.t)).setCell ⟨g, 3, none⟩ (.bool true)).setCell ⟨g, 5, none⟩ (.bool x.pt)) := by
  have h1 := heap_set (o := 1) (.string x.t) h
  have h2 := heap_set (o := 3) (.bool true) h1
  refine ⟨store_one 9 (by kernel_rfl) rfl (cell_of h rfl) (frozen_of h) rfl, store_one 4 (by kernel_rfl) rfl (cell_of h1 rfl) (frozen_of h1) rfl, store_one 4 (by kernel_rfl) rfl (cell_of h2 rfl) (frozen_of h2) rfl⟩
theorem MI.setF {w V : World} {n : Nat} {a b r : Rg} (x : Rg) (h : MI w n a b r V) : MI w n a b (setF r x) (((V.setCell ⟨n + 1 + 1 + 1, 0, none⟩ (.string x.f)).setCell ⟨n + 1 + 1 + 1, 2, none⟩ (.bool true)).setCell ⟨n + 1 + 1 + 1, 4, none⟩ (.bool x.pf)) := by
  have far : ∀ k, k ≠ n + 1 + 1 + 1 → (((V.setCell ⟨n + 1 + 1 + 1, 0, none⟩ (.string x.f)).setCell ⟨n + 1 + 1 + 1, 2, none⟩ (.bool true)).setCell ⟨n + 1 + 1 + 1, 4, none⟩ (.bool x.pf)).heap[k]? = V.heap[k]? := fun k hk => (heap_far _ hk).trans ((heap_far _ hk).trans (heap_far _ hk))
  exact ⟨(far n (by omega)).trans h.1, (far (n + 1) (by omega)).trans h.2.1, (far (n + 1 + 1) (by omega)).trans h.2.2.1, h.2.2.2.1.setF, below_set (below_set (below_set h.2.2.2.2 (by omega)) (by omega)) (by omega)⟩
theorem MI.setT {w V : World} {n : Nat} {a b r : Rg} (x : Rg) (h : MI w n a b r V) : MI w n a b (setT r x) (((V.setCell ⟨n + 1 + 1 + 1, 1, none⟩ (.string x.t)).setCell ⟨n + 1 + 1 + 1, 3, none⟩ (.bool true)).setCell ⟨n + 1 + 1 + 1, 5, none⟩ (.bool x.pt)) := by
  have far : ∀ k, k ≠ n + 1 + 1 + 1 → (((V.setCell ⟨n + 1 + 1 + 1, 1, none⟩ (.string x.t)).setCell ⟨n + 1 + 1 + 1, 3, none⟩ (.bool true)).setCell ⟨n + 1 + 1 + 1, 5, none⟩ (.bool x.pt)).heap[k]? = V.heap[k]? := fun k hk => (heap_far _ hk).trans ((heap_far _ hk).trans (heap_far _ hk))
  exact ⟨(far n (by omega)).trans h.1, (far (n + 1) (by omega)).trans h.2.1, (far (n + 1 + 1) (by omega)).trans h.2.2.1, h.2.2.2.1.setT, below_set (below_set (below_set h.2.2.2.2 (by omega)) (by omega)) (by omega)⟩
set_option maxRecDepth 100000 in
set_option maxHeartbeats 4000000 in
theorem rmeet_ (a b : Rg) (w : World) : Calls Try.prog 14 #[rgV a, rgV b] w fun e w' => e = .returned (rgV (meetR a b)) ∧ Below w.heap.size w w' := by
  rw [← meet_step]
  obtain ⟨W0, hW0⟩ : ∃ W0, W0 = (((w.alloc (.cells #[.string a.f, .string a.t, .bool a.hf, .bool a.ht, .bool a.pf, .bool a.pt] 23)).alloc (.cells #[.string b.f, .string b.t, .bool b.hf, .bool b.ht, .bool b.pf, .bool b.pt] 23)).alloc (.cells #[.string ⟨#[]⟩, .string ⟨#[]⟩, .bool false, .bool false, .bool false, .bool false] 23)).alloc (.cells #[.string ⟨#[]⟩, .string ⟨#[]⟩, .bool false, .bool false, .bool false, .bool false] 23) := ⟨_, rfl⟩
  have HI0 : Hid (MI w w.heap.size a b zeroR W0) := by
    rw [hW0]
    refine ⟨?_, ?_, ?_, ?_, below_step (below_three w _ _ _) (below_alloc _ _)⟩
    · exact ((RB.on (new_blk w _) (below_alloc _ _)).on (below_alloc _ _)).on (below_alloc _ _)
    · exact (RB.on (two_alloc w _ _) (below_alloc _ _)).on (below_alloc _ _)
    · exact blkKeep (below_alloc _ _) (three_alloc w _ _ _)
    · unfold RB
      have := new_blk (((w.alloc (.cells #[.string a.f, .string a.t, .bool a.hf, .bool a.ht, .bool a.pf, .bool a.pt] 23)).alloc (.cells #[.string b.f, .string b.t, .bool b.hf, .bool b.ht, .bool b.pf, .bool b.pt] 23)).alloc (.cells #[.string ⟨#[]⟩, .string ⟨#[]⟩, .bool false, .bool false, .bool false, .bool false] 23)) (.cells #[.string ⟨#[]⟩, .string ⟨#[]⟩, .bool false, .bool false, .bool false, .bool false] 23)
      simpa [go_sem, zeroR, nil8] using this
  unfold rgV
  go_enter Try.func14, Try.ntmps14
  go_upto_region 2 with fail
  rw [← hW0]
  clear hW0
  generalize hn : w.heap.size = n at *
  have HNn := Lib.hid hn
  clear hn
  go_wp2_with fail
  go_loopw [6] (fun jv wr => ∃ j : Nat, j ≤ 2 ∧ jv = .int .i64 j ∧ Hid (MI w n a b (stR a b j) wr)) (fun jv _ => (2 - intOf jv).toNat)
  case atStart => exact ⟨0, by omega, rfl, HI0⟩
  case round =>
    clear HI0
    obtain ⟨j, hj, rfl, HI⟩ := hrel
    rcases (by omega : j = 0 ∨ j = 1 ∨ j = 2) with rfl | rfl | rfl
    · -- round 0
      obtain ⟨r, hr0⟩ : ∃ r, r = stR a b 0 := ⟨_, rfl⟩
      obtain ⟨nx, hnx⟩ : ∃ nx, nx = stR a b 1 := ⟨_, rfl⟩
      have HST : Hid (nx = stepR r a) := by rw [hnx, hr0]; rfl
      have HNX : Hid (stR a b 1 = nx) := hnx.symm
      clear hnx
      rw [← hr0] at HI
      clear hr0
      have hA : RgAt wr n a := HI.out.1.at
      have hB : RgAt wr (n + 1) b := HI.out.2.1.at
      unfold RgAt at hA hB
      obtain ⟨x0, x1, x2, x3, x4, x5⟩ := hA
      obtain ⟨y0, y1, y2, y3, y4, y5⟩ := hB
      skip
      skip
      skip
      go_upto_region 8 with fail
      obtain ⟨W1, hW1⟩ : ∃ W1, W1 = wr.alloc (.cells #[.string a.f, .string a.t, .bool a.hf, .bool a.ht, .bool a.pf, .bool a.pt] 23) := ⟨_, rfl⟩
      rw [← hW1]
      have HM : Hid (MI w n a b r W1) := by rw [hW1]; exact HI.out.alloc _
      have HX : Hid (RB W1 wr.heap.size a) := by rw [hW1]; exact new_blk wr _
      have HXN : Hid (wr.heap.size ≠ n + 1 + 1 + 1) := by have := blk_lt HI.out.2.2.2.1; show _ ≠ _; omega
      clear hW1 HI x0 x1 x2 x3 x4 x5 y0 y1 y2 y3 y4 y5
      generalize wr.heap.size = xg at *
      obtain ⟨x, hxX⟩ : ∃ x, x = a := ⟨_, rfl⟩
      rw [← hxX] at HX HST
      clear hxX
      obtain ⟨bF, hbF⟩ : ∃ c, c = cF r x := ⟨_, rfl⟩
      obtain ⟨bT, hbT⟩ : ∃ c, c = cT r x := ⟨_, rfl⟩
      have HbF := Lib.hid hbF
      have HbT := Lib.hid hbT
      clear hbF hbT
      go_cut [41] from 9 to 80 (fun s wx => s = .bool bF ∧ wx = W1)
      case first =>
        have hx : RgAt W1 xg x := HX.out.at
        have hr : RgAt W1 (n + 1 + 1 + 1) r := HM.out.2.2.2.1.at
        obtain ⟨xf, xt, xhf, xht, xpf, xpt⟩ := x
        obtain ⟨rf, rt, rhf, rht, rpf, rpt⟩ := r
        unfold RgAt at hx hr
        obtain ⟨x0, x1, x2, x3, x4, x5⟩ := hx
        obtain ⟨r0, r1, r2, r3, r4, r5⟩ := hr
        cases xhf with
        | false => go_wp2_with fail; go_meet; case rel => exact ⟨by rw [HbF.out]; rfl, rfl⟩
        | true =>
          cases rhf with
          | false => go_wp2_with fail; go_meet; case rel => exact ⟨by rw [HbF.out]; rfl, rfl⟩
          | true =>
            rcases ord3 xf rf with ⟨h1, h2, h3, _, h4, h5, h6, _⟩ | ⟨h1, h2, h3, _, h4, h5, h6, _⟩ | ⟨h1, h2, h3, _, h4, h5, h6, _⟩
            all_goals (go_wp2_with fail; go_meet; case rel => exact ⟨by rw [HbF.out]; simp [cF, h5, h6], rfl⟩)
      case rest =>
        obtain ⟨rfl, hw1⟩ := hcut
        subst hw1
        cases bF with
        | true =>
          go_upto_region 9 with fail
          have HXD : Hid (RgAt wc.drew xg x) := (HX.out.on (below_drew _)).at
          have FX : Hid (∀ V, RgAt V xg x → RgAt V xg x) := fun _ h => h
          unfold RgAt at FX
          have hrb := HM.out.2.2.2.1.on (below_drew _)
          obtain ⟨s1, s2, s3⟩ := stF hrb x
          have HM2 : Hid (MI w n a b (setF r x) (((wc.drew.setCell ⟨n + 1 + 1 + 1, 0, none⟩ (.string x.f)).setCell ⟨n + 1 + 1 + 1, 2, none⟩ (.bool true)).setCell ⟨n + 1 + 1 + 1, 4, none⟩ (.bool x.pf))) := HM.out.drew.setF x
          have HX2 : Hid (RB (((wc.drew.setCell ⟨n + 1 + 1 + 1, 0, none⟩ (.string x.f)).setCell ⟨n + 1 + 1 + 1, 2, none⟩ (.bool true)).setCell ⟨n + 1 + 1 + 1, 4, none⟩ (.bool x.pf)) xg x) := (HX.out.on (below_drew _)).far3 HXN.out
          clear hrb
          refine wp_region_noPanic ?_
          obtain ⟨k1, k2, k3⟩ := far123 (g := n + 1 + 1 + 1) (os := (0, 2, 4)) (a := .string x.f) (b := .bool true) (c := .bool x.pf) (HX.out.on (below_drew _)) HXN.out
          refine region_ph (A := fun V => RgAt V xg x) (e1 := 9999) (B := fun _ => True) (e2 := 9999) (C := fun _ => True) (by kernel_rfl) ⟨HXD.out, fun _ => trivial, fun _ => trivial⟩ (fun hSt => ?_)
          refine take_ph 0 (.pointer (some ⟨xg, 0, none⟩)) [] rfl (by kernel_rfl) (fun _ _ _ h => h) (Or.inl ⟨by rfl, ?_⟩) hSt (fun hSn => ?_)
          · intro V _; clear k1 k2 k3 s1 s2 s3; go_simp
          clear hSt; rename Ph _ _ _ _ _ _ _ => hSt
          simp only [Act.put, List.setIfInBounds_toArray, List.set_cons_zero, List.set_cons_succ]
          refine take_ph 1 (.string x.f) [] rfl (by kernel_rfl) (fun _ _ _ h => h) (Or.inl ⟨by rfl, ?_⟩) hSt (fun hSn => ?_)
          · rintro V ⟨hh, _, _⟩; have e0 := FX.out V hh; clear hh k1 k2 k3 s1 s2 s3; go_simp
          clear hSt; rename Ph _ _ _ _ _ _ _ => hSt
          simp only [Act.put, List.setIfInBounds_toArray, List.set_cons_zero, List.set_cons_succ]
          refine take_ph 2 (.pointer (some ⟨xg, 4, none⟩)) [] rfl (by kernel_rfl) (fun _ _ _ h => h) (Or.inl ⟨by rfl, ?_⟩) hSt (fun hSn => ?_)
          · intro V _; clear k1 k2 k3 s1 s2 s3; go_simp
          clear hSt; rename Ph _ _ _ _ _ _ _ => hSt
          simp only [Act.put, List.setIfInBounds_toArray, List.set_cons_zero, List.set_cons_succ]
          refine take_ph 3 (.bool x.pf) [] rfl (by kernel_rfl) (fun _ _ _ h => h) (Or.inl ⟨by rfl, ?_⟩) hSt (fun hSn => ?_)
          · rintro V ⟨hh, _, _⟩; have e0 := FX.out V hh; clear hh k1 k2 k3 s1 s2 s3; go_simp
          clear hSt; rename Ph _ _ _ _ _ _ _ => hSt
          simp only [Act.put, List.setIfInBounds_toArray, List.set_cons_zero, List.set_cons_succ]
          refine take_ph 4 (.pointer (some ⟨n + 1 + 1 + 1, 0, none⟩)) [] rfl (by kernel_rfl) (fun _ _ _ h => h) (Or.inl ⟨by rfl, ?_⟩) hSt (fun hSn => ?_)
          · intro V _; clear k1 k2 k3 s1 s2 s3; go_simp
          clear hSt; rename Ph _ _ _ _ _ _ _ => hSt
          simp only [Act.put, List.setIfInBounds_toArray, List.set_cons_zero, List.set_cons_succ]
          refine ready_store_ph 5 rfl (by kernel_rfl) rfl 9 _ _ rfl _ _ rfl rfl s1 ⟨k1, fun _ => trivial, fun _ => trivial⟩ (fun hSn => ?_)
          clear hSt; rename Ph _ _ _ _ _ _ _ => hSt
          simp only [Act.put]
          refine take_ph 6 (.pointer (some ⟨n + 1 + 1 + 1, 2, none⟩)) [] rfl (by kernel_rfl) (fun _ _ _ h => h) (Or.inl ⟨by rfl, ?_⟩) hSt (fun hSn => ?_)
          · intro V _; clear k1 k2 k3 s1 s2 s3; go_simp
          clear hSt; rename Ph _ _ _ _ _ _ _ => hSt
          simp only [Act.put, List.setIfInBounds_toArray, List.set_cons_zero, List.set_cons_succ]
          refine ready_store_ph 7 rfl (by kernel_rfl) rfl 4 _ _ rfl _ _ rfl rfl s2 ⟨k2, fun _ => trivial, fun _ => trivial⟩ (fun hSn => ?_)
          clear hSt; rename Ph _ _ _ _ _ _ _ => hSt
          simp only [Act.put]
          refine take_ph 8 (.pointer (some ⟨n + 1 + 1 + 1, 4, none⟩)) [] rfl (by kernel_rfl) (fun _ _ _ h => h) (Or.inl ⟨by rfl, ?_⟩) hSt (fun hSn => ?_)
          · intro V _; clear k1 k2 k3 s1 s2 s3; go_simp
          clear hSt; rename Ph _ _ _ _ _ _ _ => hSt
          simp only [Act.put, List.setIfInBounds_toArray, List.set_cons_zero, List.set_cons_succ]
          refine ready_store_ph 9 rfl (by kernel_rfl) rfl 4 _ _ rfl _ _ rfl rfl s3 ⟨k3, fun _ => trivial, fun _ => trivial⟩ (fun hSn => ?_)
          clear hSt; rename Ph _ _ _ _ _ _ _ => hSt
          simp only [Act.put]
          refine done_ph (by kernel_rfl) ?_ _
          clear hSt
          refine NoPanic.normal ?_
          clear HM HX HXD FX s1 s2 s3 k1 k2 k3
          generalize ((wc.drew.setCell ⟨n + 1 + 1 + 1, 0, none⟩ (.string x.f)).setCell ⟨n + 1 + 1 + 1, 2, none⟩ (.bool true)).setCell ⟨n + 1 + 1 + 1, 4, none⟩ (.bool x.pf) = W9 at *
          have HM := HM2; have HX := HX2; clear HM2 HX2
          have HbT2 : Hid (bT = cT (setF r x) x) := HbT.out
          obtain ⟨r2, hr2⟩ : ∃ r2, r2 = setF r x := ⟨_, rfl⟩
          rw [← hr2] at HM HbT2
          have HST2 : Hid (nx = bif bT then setT r2 x else r2) := by rw [HST.out, hr2]; unfold stepR; rw [← HbF.out, ← HbT.out]; rfl
          clear hr2 HST HbT HbF
          have HbT := HbT2
          clear HbT2
          obtain ⟨r, rfl⟩ : ∃ r, r = r2 := ⟨_, rfl⟩
          go_upto_region 10 with fail
          go_cut [73] from 9 to 80 (fun s wx => s = .bool bT ∧ wx = W9)
          case first =>
            have hx : RgAt W9 xg x := HX.out.at
            have hr : RgAt W9 (n + 1 + 1 + 1) r := HM.out.2.2.2.1.at
            obtain ⟨xf, xt, xhf, xht, xpf, xpt⟩ := x
            obtain ⟨rf, rt, rhf, rht, rpf, rpt⟩ := r
            unfold RgAt at hx hr
            obtain ⟨x0, x1, x2, x3, x4, x5⟩ := hx
            obtain ⟨r0, r1, r2, r3, r4, r5⟩ := hr
            cases xht with
            | false => go_wp2_with fail; go_meet; case rel => exact ⟨by rw [HbT.out]; rfl, rfl⟩
            | true =>
              cases rht with
              | false => go_wp2_with fail; go_meet; case rel => exact ⟨by rw [HbT.out]; rfl, rfl⟩
              | true =>
                rcases ord3 xt rt with ⟨h1, h2, h3, _, h4, h5, h6, _⟩ | ⟨h1, h2, h3, _, h4, h5, h6, _⟩ | ⟨h1, h2, h3, _, h4, h5, h6, _⟩
                all_goals (go_wp2_with fail; go_meet; case rel => exact ⟨by rw [HbT.out]; simp [cT, h4, h6], rfl⟩)
          case rest =>
            obtain ⟨rfl, hw1⟩ := hcut
            subst hw1
            cases bT with
            | true =>
              go_upto_region 11 with fail
              have HXD : Hid (RgAt wc.drew xg x) := (HX.out.on (below_drew _)).at
              have FX : Hid (∀ V, RgAt V xg x → RgAt V xg x) := fun _ h => h
              unfold RgAt at FX
              have hrb := HM.out.2.2.2.1.on (below_drew _)
              obtain ⟨s1, s2, s3⟩ := stT hrb x
              have HM2 : Hid (MI w n a b (setT r x) (((wc.drew.setCell ⟨n + 1 + 1 + 1, 1, none⟩ (.string x.t)).setCell ⟨n + 1 + 1 + 1, 3, none⟩ (.bool true)).setCell ⟨n + 1 + 1 + 1, 5, none⟩ (.bool x.pt))) := HM.out.drew.setT x
              have HX2 : Hid (RB (((wc.drew.setCell ⟨n + 1 + 1 + 1, 1, none⟩ (.string x.t)).setCell ⟨n + 1 + 1 + 1, 3, none⟩ (.bool true)).setCell ⟨n + 1 + 1 + 1, 5, none⟩ (.bool x.pt)) xg x) := (HX.out.on (below_drew _)).far3 HXN.out
              clear hrb
              refine wp_region_noPanic ?_
              obtain ⟨k1, k2, k3⟩ := far123 (g := n + 1 + 1 + 1) (os := (1, 3, 5)) (a := .string x.t) (b := .bool true) (c := .bool x.pt) (HX.out.on (below_drew _)) HXN.out
              refine region_ph (A := fun V => RgAt V xg x) (e1 := 9999) (B := fun _ => True) (e2 := 9999) (C := fun _ => True) (by kernel_rfl) ⟨HXD.out, fun _ => trivial, fun _ => trivial⟩ (fun hSt => ?_)
              refine take_ph 0 (.pointer (some ⟨xg, 1, none⟩)) [] rfl (by kernel_rfl) (fun _ _ _ h => h) (Or.inl ⟨by rfl, ?_⟩) hSt (fun hSn => ?_)
              · intro V _; clear k1 k2 k3 s1 s2 s3; go_simp
              clear hSt; rename Ph _ _ _ _ _ _ _ => hSt
              simp only [Act.put, List.setIfInBounds_toArray, List.set_cons_zero, List.set_cons_succ]
              refine take_ph 1 (.string x.t) [] rfl (by kernel_rfl) (fun _ _ _ h => h) (Or.inl ⟨by rfl, ?_⟩) hSt (fun hSn => ?_)
              · rintro V ⟨hh, _, _⟩; have e0 := FX.out V hh; clear hh k1 k2 k3 s1 s2 s3; go_simp
              clear hSt; rename Ph _ _ _ _ _ _ _ => hSt
              simp only [Act.put, List.setIfInBounds_toArray, List.set_cons_zero, List.set_cons_succ]
              refine take_ph 2 (.pointer (some ⟨xg, 5, none⟩)) [] rfl (by kernel_rfl) (fun _ _ _ h => h) (Or.inl ⟨by rfl, ?_⟩) hSt (fun hSn => ?_)
              · intro V _; clear k1 k2 k3 s1 s2 s3; go_simp
              clear hSt; rename Ph _ _ _ _ _ _ _ => hSt
              simp only [Act.put, List.setIfInBounds_toArray, List.set_cons_zero, List.set_cons_succ]
              refine take_ph 3 (.bool x.pt) [] rfl (by kernel_rfl) (fun _ _ _ h => h) (Or.inl ⟨by rfl, ?_⟩) hSt (fun hSn => ?_)
              · rintro V ⟨hh, _, _⟩; have e0 := FX.out V hh; clear hh k1 k2 k3 s1 s2 s3; go_simp
              clear hSt; rename Ph _ _ _ _ _ _ _ => hSt
              simp only [Act.put, List.setIfInBounds_toArray, List.set_cons_zero, List.set_cons_succ]
              refine take_ph 4 (.pointer (some ⟨n + 1 + 1 + 1, 1, none⟩)) [] rfl (by kernel_rfl) (fun _ _ _ h => h) (Or.inl ⟨by rfl, ?_⟩) hSt (fun hSn => ?_)
              · intro V _; clear k1 k2 k3 s1 s2 s3; go_simp
              clear hSt; rename Ph _ _ _ _ _ _ _ => hSt
              simp only [Act.put, List.setIfInBounds_toArray, List.set_cons_zero, List.set_cons_succ]
              refine ready_store_ph 5 rfl (by kernel_rfl) rfl 9 _ _ rfl _ _ rfl rfl s1 ⟨k1, fun _ => trivial, fun _ => trivial⟩ (fun hSn => ?_)
              clear hSt; rename Ph _ _ _ _ _ _ _ => hSt
              simp only [Act.put]
              refine take_ph 6 (.pointer (some ⟨n + 1 + 1 + 1, 3, none⟩)) [] rfl (by kernel_rfl) (fun _ _ _ h => h) (Or.inl ⟨by rfl, ?_⟩) hSt (fun hSn => ?_)
              · intro V _; clear k1 k2 k3 s1 s2 s3; go_simp
              clear hSt; rename Ph _ _ _ _ _ _ _ => hSt
              simp only [Act.put, List.setIfInBounds_toArray, List.set_cons_zero, List.set_cons_succ]
              refine ready_store_ph 7 rfl (by kernel_rfl) rfl 4 _ _ rfl _ _ rfl rfl s2 ⟨k2, fun _ => trivial, fun _ => trivial⟩ (fun hSn => ?_)
              clear hSt; rename Ph _ _ _ _ _ _ _ => hSt
              simp only [Act.put]
              refine take_ph 8 (.pointer (some ⟨n + 1 + 1 + 1, 5, none⟩)) [] rfl (by kernel_rfl) (fun _ _ _ h => h) (Or.inl ⟨by rfl, ?_⟩) hSt (fun hSn => ?_)
              · intro V _; clear k1 k2 k3 s1 s2 s3; go_simp
              clear hSt; rename Ph _ _ _ _ _ _ _ => hSt
              simp only [Act.put, List.setIfInBounds_toArray, List.set_cons_zero, List.set_cons_succ]
              refine ready_store_ph 9 rfl (by kernel_rfl) rfl 4 _ _ rfl _ _ rfl rfl s3 ⟨k3, fun _ => trivial, fun _ => trivial⟩ (fun hSn => ?_)
              clear hSt; rename Ph _ _ _ _ _ _ _ => hSt
              simp only [Act.put]
              refine done_ph (by kernel_rfl) ?_ _
              clear hSt
              refine NoPanic.normal ?_
              clear HM HX HXD FX s1 s2 s3 k1 k2 k3
              generalize ((wc.drew.setCell ⟨n + 1 + 1 + 1, 1, none⟩ (.string x.t)).setCell ⟨n + 1 + 1 + 1, 3, none⟩ (.bool true)).setCell ⟨n + 1 + 1 + 1, 5, none⟩ (.bool x.pt) = W9 at *
              have HM := HM2; have HX := HX2; clear HM2 HX2

              go_wp2_with fail
              go_roundw
              case rel => exact ⟨1, by omega, by go_num, by rw [HNX.out, HST2.out]; exact HM.out⟩
              case measure => simp [intOf]
            | false =>
              go_wp2_with fail
              go_roundw
              case rel => exact ⟨1, by omega, by go_num, by rw [HNX.out, HST2.out]; exact HM.out⟩
              case measure => simp [intOf]

        | false =>
          obtain ⟨W9, rfl⟩ : ∃ W9, W9 = wc := ⟨_, rfl⟩
          have HbT2 := HbT
          obtain ⟨r2, hr2⟩ : ∃ r2, r2 = r := ⟨_, rfl⟩
          rw [← hr2] at HM HbT2
          have HST2 : Hid (nx = bif bT then setT r2 x else r2) := by rw [HST.out, hr2]; unfold stepR; rw [← HbF.out, ← HbT.out]; rfl
          clear hr2 HST HbT HbF
          have HbT := HbT2
          clear HbT2
          obtain ⟨r, rfl⟩ : ∃ r, r = r2 := ⟨_, rfl⟩
          go_upto_region 10 with fail
          go_cut [73] from 9 to 80 (fun s wx => s = .bool bT ∧ wx = W9)
          case first =>
            have hx : RgAt W9 xg x := HX.out.at
            have hr : RgAt W9 (n + 1 + 1 + 1) r := HM.out.2.2.2.1.at
            obtain ⟨xf, xt, xhf, xht, xpf, xpt⟩ := x
            obtain ⟨rf, rt, rhf, rht, rpf, rpt⟩ := r
            unfold RgAt at hx hr
            obtain ⟨x0, x1, x2, x3, x4, x5⟩ := hx
            obtain ⟨r0, r1, r2, r3, r4, r5⟩ := hr
            cases xht with
            | false => go_wp2_with fail; go_meet; case rel => exact ⟨by rw [HbT.out]; rfl, rfl⟩
            | true =>
              cases rht with
              | false => go_wp2_with fail; go_meet; case rel => exact ⟨by rw [HbT.out]; rfl, rfl⟩
              | true =>
                rcases ord3 xt rt with ⟨h1, h2, h3, _, h4, h5, h6, _⟩ | ⟨h1, h2, h3, _, h4, h5, h6, _⟩ | ⟨h1, h2, h3, _, h4, h5, h6, _⟩
                all_goals (go_wp2_with fail; go_meet; case rel => exact ⟨by rw [HbT.out]; simp [cT, h4, h6], rfl⟩)
          case rest =>
            obtain ⟨rfl, hw1⟩ := hcut
            subst hw1
            cases bT with
            | true =>
              go_upto_region 11 with fail
              have HXD : Hid (RgAt wc.drew xg x) := (HX.out.on (below_drew _)).at
              have FX : Hid (∀ V, RgAt V xg x → RgAt V xg x) := fun _ h => h
              unfold RgAt at FX
              have hrb := HM.out.2.2.2.1.on (below_drew _)
              obtain ⟨s1, s2, s3⟩ := stT hrb x
              have HM2 : Hid (MI w n a b (setT r x) (((wc.drew.setCell ⟨n + 1 + 1 + 1, 1, none⟩ (.string x.t)).setCell ⟨n + 1 + 1 + 1, 3, none⟩ (.bool true)).setCell ⟨n + 1 + 1 + 1, 5, none⟩ (.bool x.pt))) := HM.out.drew.setT x
              have HX2 : Hid (RB (((wc.drew.setCell ⟨n + 1 + 1 + 1, 1, none⟩ (.string x.t)).setCell ⟨n + 1 + 1 + 1, 3, none⟩ (.bool true)).setCell ⟨n + 1 + 1 + 1, 5, none⟩ (.bool x.pt)) xg x) := (HX.out.on (below_drew _)).far3 HXN.out
              clear hrb
              refine wp_region_noPanic ?_
              obtain ⟨k1, k2, k3⟩ := far123 (g := n + 1 + 1 + 1) (os := (1, 3, 5)) (a := .string x.t) (b := .bool true) (c := .bool x.pt) (HX.out.on (below_drew _)) HXN.out
              refine region_ph (A := fun V => RgAt V xg x) (e1 := 9999) (B := fun _ => True) (e2 := 9999) (C := fun _ => True) (by kernel_rfl) ⟨HXD.out, fun _ => trivial, fun _ => trivial⟩ (fun hSt => ?_)
              refine take_ph 0 (.pointer (some ⟨xg, 1, none⟩)) [] rfl (by kernel_rfl) (fun _ _ _ h => h) (Or.inl ⟨by rfl, ?_⟩) hSt (fun hSn => ?_)
              · intro V _; clear k1 k2 k3 s1 s2 s3; go_simp
              clear hSt; rename Ph _ _ _ _ _ _ _ => hSt
              simp only [Act.put, List.setIfInBounds_toArray, List.set_cons_zero, List.set_cons_succ]
              refine take_ph 1 (.string x.t) [] rfl (by kernel_rfl) (fun _ _ _ h => h) (Or.inl ⟨by rfl, ?_⟩) hSt (fun hSn => ?_)
              · rintro V ⟨hh, _, _⟩; have e0 := FX.out V hh; clear hh k1 k2 k3 s1 s2 s3; go_simp
              clear hSt; rename Ph _ _ _ _ _ _ _ => hSt
              simp only [Act.put, List.setIfInBounds_toArray, List.set_cons_zero, List.set_cons_succ]
              refine take_ph 2 (.pointer (some ⟨xg, 5, none⟩)) [] rfl (by kernel_rfl) (fun _ _ _ h => h) (Or.inl ⟨by rfl, ?_⟩) hSt (fun hSn => ?_)
              · intro V _; clear k1 k2 k3 s1 s2 s3; go_simp
              clear hSt; rename Ph _ _ _ _ _ _ _ => hSt
              simp only [Act.put, List.setIfInBounds_toArray, List.set_cons_zero, List.set_cons_succ]
              refine take_ph 3 (.bool x.pt) [] rfl (by kernel_rfl) (fun _ _ _ h => h) (Or.inl ⟨by rfl, ?_⟩) hSt (fun hSn => ?_)
              · rintro V ⟨hh, _, _⟩; have e0 := FX.out V hh; clear hh k1 k2 k3 s1 s2 s3; go_simp
              clear hSt; rename Ph _ _ _ _ _ _ _ => hSt
              simp only [Act.put, List.setIfInBounds_toArray, List.set_cons_zero, List.set_cons_succ]
              refine take_ph 4 (.pointer (some ⟨n + 1 + 1 + 1, 1, none⟩)) [] rfl (by kernel_rfl) (fun _ _ _ h => h) (Or.inl ⟨by rfl, ?_⟩) hSt (fun hSn => ?_)
              · intro V _; clear k1 k2 k3 s1 s2 s3; go_simp
              clear hSt; rename Ph _ _ _ _ _ _ _ => hSt
              simp only [Act.put, List.setIfInBounds_toArray, List.set_cons_zero, List.set_cons_succ]
              refine ready_store_ph 5 rfl (by kernel_rfl) rfl 9 _ _ rfl _ _ rfl rfl s1 ⟨k1, fun _ => trivial, fun _ => trivial⟩ (fun hSn => ?_)
              clear hSt; rename Ph _ _ _ _ _ _ _ => hSt
              simp only [Act.put]
              refine take_ph 6 (.pointer (some ⟨n + 1 + 1 + 1, 3, none⟩)) [] rfl (by kernel_rfl) (fun _ _ _ h => h) (Or.inl ⟨by rfl, ?_⟩) hSt (fun hSn => ?_)
              · intro V _; clear k1 k2 k3 s1 s2 s3; go_simp
              clear hSt; rename Ph _ _ _ _ _ _ _ => hSt
              simp only [Act.put, List.setIfInBounds_toArray, List.set_cons_zero, List.set_cons_succ]
              refine ready_store_ph 7 rfl (by kernel_rfl) rfl 4 _ _ rfl _ _ rfl rfl s2 ⟨k2, fun _ => trivial, fun _ => trivial⟩ (fun hSn => ?_)
              clear hSt; rename Ph _ _ _ _ _ _ _ => hSt
              simp only [Act.put]
              refine take_ph 8 (.pointer (some ⟨n + 1 + 1 + 1, 5, none⟩)) [] rfl (by kernel_rfl) (fun _ _ _ h => h) (Or.inl ⟨by rfl, ?_⟩) hSt (fun hSn => ?_)
              · intro V _; clear k1 k2 k3 s1 s2 s3; go_simp
              clear hSt; rename Ph _ _ _ _ _ _ _ => hSt
              simp only [Act.put, List.setIfInBounds_toArray, List.set_cons_zero, List.set_cons_succ]
              refine ready_store_ph 9 rfl (by kernel_rfl) rfl 4 _ _ rfl _ _ rfl rfl s3 ⟨k3, fun _ => trivial, fun _ => trivial⟩ (fun hSn => ?_)
              clear hSt; rename Ph _ _ _ _ _ _ _ => hSt
              simp only [Act.put]
              refine done_ph (by kernel_rfl) ?_ _
              clear hSt
              refine NoPanic.normal ?_
              clear HM HX HXD FX s1 s2 s3 k1 k2 k3
              generalize ((wc.drew.setCell ⟨n + 1 + 1 + 1, 1, none⟩ (.string x.t)).setCell ⟨n + 1 + 1 + 1, 3, none⟩ (.bool true)).setCell ⟨n + 1 + 1 + 1, 5, none⟩ (.bool x.pt) = W9 at *
              have HM := HM2; have HX := HX2; clear HM2 HX2

              go_wp2_with fail
              go_roundw
              case rel => exact ⟨1, by omega, by go_num, by rw [HNX.out, HST2.out]; exact HM.out⟩
              case measure => simp [intOf]
            | false =>
              go_wp2_with fail
              go_roundw
              case rel => exact ⟨1, by omega, by go_num, by rw [HNX.out, HST2.out]; exact HM.out⟩
              case measure => simp [intOf]

    · -- round 1
      obtain ⟨r, hr0⟩ : ∃ r, r = stR a b 1 := ⟨_, rfl⟩
      obtain ⟨nx, hnx⟩ : ∃ nx, nx = stR a b 2 := ⟨_, rfl⟩
      have HST : Hid (nx = stepR r b) := by rw [hnx, hr0]; rfl
      have HNX : Hid (stR a b 2 = nx) := hnx.symm
      clear hnx
      rw [← hr0] at HI
      clear hr0
      have hA : RgAt wr n a := HI.out.1.at
      have hB : RgAt wr (n + 1) b := HI.out.2.1.at
      unfold RgAt at hA hB
      obtain ⟨x0, x1, x2, x3, x4, x5⟩ := hA
      obtain ⟨y0, y1, y2, y3, y4, y5⟩ := hB
      have hB2 : RgAt (wr.alloc (.cells #[.string a.f, .string a.t, .bool a.hf, .bool a.ht, .bool a.pf, .bool a.pt] 23)) (n + 1) b := (HI.out.alloc _).2.1.at
      unfold RgAt at hB2
      obtain ⟨q0, q1, q2, q3, q4, q5⟩ := hB2
      go_upto_region 8 with fail
      obtain ⟨W1, hW1⟩ : ∃ W1, W1 = wr.alloc (.cells #[.string b.f, .string b.t, .bool b.hf, .bool b.ht, .bool b.pf, .bool b.pt] 23) := ⟨_, rfl⟩
      rw [← hW1]
      have HM : Hid (MI w n a b r W1) := by rw [hW1]; exact HI.out.alloc _
      have HX : Hid (RB W1 wr.heap.size b) := by rw [hW1]; exact new_blk wr _
      have HXN : Hid (wr.heap.size ≠ n + 1 + 1 + 1) := by have := blk_lt HI.out.2.2.2.1; show _ ≠ _; omega
      clear hW1 HI x0 x1 x2 x3 x4 x5 y0 y1 y2 y3 y4 y5 q0 q1 q2 q3 q4 q5
      generalize wr.heap.size = xg at *
      obtain ⟨x, hxX⟩ : ∃ x, x = b := ⟨_, rfl⟩
      rw [← hxX] at HX HST
      clear hxX
      obtain ⟨bF, hbF⟩ : ∃ c, c = cF r x := ⟨_, rfl⟩
      obtain ⟨bT, hbT⟩ : ∃ c, c = cT r x := ⟨_, rfl⟩
      have HbF := Lib.hid hbF
      have HbT := Lib.hid hbT
      clear hbF hbT
      go_cut [41] from 9 to 80 (fun s wx => s = .bool bF ∧ wx = W1)
      case first =>
        have hx : RgAt W1 xg x := HX.out.at
        have hr : RgAt W1 (n + 1 + 1 + 1) r := HM.out.2.2.2.1.at
        obtain ⟨xf, xt, xhf, xht, xpf, xpt⟩ := x
        obtain ⟨rf, rt, rhf, rht, rpf, rpt⟩ := r
        unfold RgAt at hx hr
        obtain ⟨x0, x1, x2, x3, x4, x5⟩ := hx
        obtain ⟨r0, r1, r2, r3, r4, r5⟩ := hr
        cases xhf with
        | false => go_wp2_with fail; go_meet; case rel => exact ⟨by rw [HbF.out]; rfl, rfl⟩
        | true =>
          cases rhf with
          | false => go_wp2_with fail; go_meet; case rel => exact ⟨by rw [HbF.out]; rfl, rfl⟩
          | true =>
            rcases ord3 xf rf with ⟨h1, h2, h3, _, h4, h5, h6, _⟩ | ⟨h1, h2, h3, _, h4, h5, h6, _⟩ | ⟨h1, h2, h3, _, h4, h5, h6, _⟩
            all_goals (go_wp2_with fail; go_meet; case rel => exact ⟨by rw [HbF.out]; simp [cF, h5, h6], rfl⟩)
      case rest =>
        obtain ⟨rfl, hw1⟩ := hcut
        subst hw1
        cases bF with
        | true =>
          go_upto_region 9 with fail
          have HXD : Hid (RgAt wc.drew xg x) := (HX.out.on (below_drew _)).at
          have FX : Hid (∀ V, RgAt V xg x → RgAt V xg x) := fun _ h => h
          unfold RgAt at FX
          have hrb := HM.out.2.2.2.1.on (below_drew _)
          obtain ⟨s1, s2, s3⟩ := stF hrb x
          have HM2 : Hid (MI w n a b (setF r x) (((wc.drew.setCell ⟨n + 1 + 1 + 1, 0, none⟩ (.string x.f)).setCell ⟨n + 1 + 1 + 1, 2, none⟩ (.bool true)).setCell ⟨n + 1 + 1 + 1, 4, none⟩ (.bool x.pf))) := HM.out.drew.setF x
          have HX2 : Hid (RB (((wc.drew.setCell ⟨n + 1 + 1 + 1, 0, none⟩ (.string x.f)).setCell ⟨n + 1 + 1 + 1, 2, none⟩ (.bool true)).setCell ⟨n + 1 + 1 + 1, 4, none⟩ (.bool x.pf)) xg x) := (HX.out.on (below_drew _)).far3 HXN.out
          clear hrb
          refine wp_region_noPanic ?_
          obtain ⟨k1, k2, k3⟩ := far123 (g := n + 1 + 1 + 1) (os := (0, 2, 4)) (a := .string x.f) (b := .bool true) (c := .bool x.pf) (HX.out.on (below_drew _)) HXN.out
          refine region_ph (A := fun V => RgAt V xg x) (e1 := 9999) (B := fun _ => True) (e2 := 9999) (C := fun _ => True) (by kernel_rfl) ⟨HXD.out, fun _ => trivial, fun _ => trivial⟩ (fun hSt => ?_)
          refine take_ph 0 (.pointer (some ⟨xg, 0, none⟩)) [] rfl (by kernel_rfl) (fun _ _ _ h => h) (Or.inl ⟨by rfl, ?_⟩) hSt (fun hSn => ?_)
          · intro V _; clear k1 k2 k3 s1 s2 s3; go_simp
          clear hSt; rename Ph _ _ _ _ _ _ _ => hSt
          simp only [Act.put, List.setIfInBounds_toArray, List.set_cons_zero, List.set_cons_succ]
          refine take_ph 1 (.string x.f) [] rfl (by kernel_rfl) (fun _ _ _ h => h) (Or.inl ⟨by rfl, ?_⟩) hSt (fun hSn => ?_)
          · rintro V ⟨hh, _, _⟩; have e0 := FX.out V hh; clear hh k1 k2 k3 s1 s2 s3; go_simp
          clear hSt; rename Ph _ _ _ _ _ _ _ => hSt
          simp only [Act.put, List.setIfInBounds_toArray, List.set_cons_zero, List.set_cons_succ]
          refine take_ph 2 (.pointer (some ⟨xg, 4, none⟩)) [] rfl (by kernel_rfl) (fun _ _ _ h => h) (Or.inl ⟨by rfl, ?_⟩) hSt (fun hSn => ?_)
          · intro V _; clear k1 k2 k3 s1 s2 s3; go_simp
          clear hSt; rename Ph _ _ _ _ _ _ _ => hSt
          simp only [Act.put, List.setIfInBounds_toArray, List.set_cons_zero, List.set_cons_succ]
          refine take_ph 3 (.bool x.pf) [] rfl (by kernel_rfl) (fun _ _ _ h => h) (Or.inl ⟨by rfl, ?_⟩) hSt (fun hSn => ?_)
          · rintro V ⟨hh, _, _⟩; have e0 := FX.out V hh; clear hh k1 k2 k3 s1 s2 s3; go_simp
          clear hSt; rename Ph _ _ _ _ _ _ _ => hSt
          simp only [Act.put, List.setIfInBounds_toArray, List.set_cons_zero, List.set_cons_succ]
          refine take_ph 4 (.pointer (some ⟨n + 1 + 1 + 1, 0, none⟩)) [] rfl (by kernel_rfl) (fun _ _ _ h => h) (Or.inl ⟨by rfl, ?_⟩) hSt (fun hSn => ?_)
          · intro V _; clear k1 k2 k3 s1 s2 s3; go_simp
          clear hSt; rename Ph _ _ _ _ _ _ _ => hSt
          simp only [Act.put, List.setIfInBounds_toArray, List.set_cons_zero, List.set_cons_succ]
          refine ready_store_ph 5 rfl (by kernel_rfl) rfl 9 _ _ rfl _ _ rfl rfl s1 ⟨k1, fun _ => trivial, fun _ => trivial⟩ (fun hSn => ?_)
          clear hSt; rename Ph _ _ _ _ _ _ _ => hSt
          simp only [Act.put]
          refine take_ph 6 (.pointer (some ⟨n + 1 + 1 + 1, 2, none⟩)) [] rfl (by kernel_rfl) (fun _ _ _ h => h) (Or.inl ⟨by rfl, ?_⟩) hSt (fun hSn => ?_)
          · intro V _; clear k1 k2 k3 s1 s2 s3; go_simp
          clear hSt; rename Ph _ _ _ _ _ _ _ => hSt
          simp only [Act.put, List.setIfInBounds_toArray, List.set_cons_zero, List.set_cons_succ]
          refine ready_store_ph 7 rfl (by kernel_rfl) rfl 4 _ _ rfl _ _ rfl rfl s2 ⟨k2, fun _ => trivial, fun _ => trivial⟩ (fun hSn => ?_)
          clear hSt; rename Ph _ _ _ _ _ _ _ => hSt
          simp only [Act.put]
          refine take_ph 8 (.pointer (some ⟨n + 1 + 1 + 1, 4, none⟩)) [] rfl (by kernel_rfl) (fun _ _ _ h => h) (Or.inl ⟨by rfl, ?_⟩) hSt (fun hSn => ?_)
          · intro V _; clear k1 k2 k3 s1 s2 s3; go_simp
          clear hSt; rename Ph _ _ _ _ _ _ _ => hSt
          simp only [Act.put, List.setIfInBounds_toArray, List.set_cons_zero, List.set_cons_succ]
          refine ready_store_ph 9 rfl (by kernel_rfl) rfl 4 _ _ rfl _ _ rfl rfl s3 ⟨k3, fun _ => trivial, fun _ => trivial⟩ (fun hSn => ?_)
          clear hSt; rename Ph _ _ _ _ _ _ _ => hSt
          simp only [Act.put]
          refine done_ph (by kernel_rfl) ?_ _
          clear hSt
          refine NoPanic.normal ?_
          clear HM HX HXD FX s1 s2 s3 k1 k2 k3
          generalize ((wc.drew.setCell ⟨n + 1 + 1 + 1, 0, none⟩ (.string x.f)).setCell ⟨n + 1 + 1 + 1, 2, none⟩ (.bool true)).setCell ⟨n + 1 + 1 + 1, 4, none⟩ (.bool x.pf) = W9 at *
          have HM := HM2; have HX := HX2; clear HM2 HX2
          have HbT2 : Hid (bT = cT (setF r x) x) := HbT.out
          obtain ⟨r2, hr2⟩ : ∃ r2, r2 = setF r x := ⟨_, rfl⟩
          rw [← hr2] at HM HbT2
          have HST2 : Hid (nx = bif bT then setT r2 x else r2) := by rw [HST.out, hr2]; unfold stepR; rw [← HbF.out, ← HbT.out]; rfl
          clear hr2 HST HbT HbF
          have HbT := HbT2
          clear HbT2
          obtain ⟨r, rfl⟩ : ∃ r, r = r2 := ⟨_, rfl⟩
          go_upto_region 10 with fail
          go_cut [73] from 9 to 80 (fun s wx => s = .bool bT ∧ wx = W9)
          case first =>
            have hx : RgAt W9 xg x := HX.out.at
            have hr : RgAt W9 (n + 1 + 1 + 1) r := HM.out.2.2.2.1.at
            obtain ⟨xf, xt, xhf, xht, xpf, xpt⟩ := x
            obtain ⟨rf, rt, rhf, rht, rpf, rpt⟩ := r
            unfold RgAt at hx hr
            obtain ⟨x0, x1, x2, x3, x4, x5⟩ := hx
            obtain ⟨r0, r1, r2, r3, r4, r5⟩ := hr
            cases xht with
            | false => go_wp2_with fail; go_meet; case rel => exact ⟨by rw [HbT.out]; rfl, rfl⟩
            | true =>
              cases rht with
              | false => go_wp2_with fail; go_meet; case rel => exact ⟨by rw [HbT.out]; rfl, rfl⟩
              | true =>
                rcases ord3 xt rt with ⟨h1, h2, h3, _, h4, h5, h6, _⟩ | ⟨h1, h2, h3, _, h4, h5, h6, _⟩ | ⟨h1, h2, h3, _, h4, h5, h6, _⟩
                all_goals (go_wp2_with fail; go_meet; case rel => exact ⟨by rw [HbT.out]; simp [cT, h4, h6], rfl⟩)
          case rest =>
            obtain ⟨rfl, hw1⟩ := hcut
            subst hw1
            cases bT with
            | true =>
              go_upto_region 11 with fail
              have HXD : Hid (RgAt wc.drew xg x) := (HX.out.on (below_drew _)).at
              have FX : Hid (∀ V, RgAt V xg x → RgAt V xg x) := fun _ h => h
              unfold RgAt at FX
              have hrb := HM.out.2.2.2.1.on (below_drew _)
              obtain ⟨s1, s2, s3⟩ := stT hrb x
              have HM2 : Hid (MI w n a b (setT r x) (((wc.drew.setCell ⟨n + 1 + 1 + 1, 1, none⟩ (.string x.t)).setCell ⟨n + 1 + 1 + 1, 3, none⟩ (.bool true)).setCell ⟨n + 1 + 1 + 1, 5, none⟩ (.bool x.pt))) := HM.out.drew.setT x
              have HX2 : Hid (RB (((wc.drew.setCell ⟨n + 1 + 1 + 1, 1, none⟩ (.string x.t)).setCell ⟨n + 1 + 1 + 1, 3, none⟩ (.bool true)).setCell ⟨n + 1 + 1 + 1, 5, none⟩ (.bool x.pt)) xg x) := (HX.out.on (below_drew _)).far3 HXN.out
              clear hrb
              refine wp_region_noPanic ?_
              obtain ⟨k1, k2, k3⟩ := far123 (g := n + 1 + 1 + 1) (os := (1, 3, 5)) (a := .string x.t) (b := .bool true) (c := .bool x.pt) (HX.out.on (below_drew _)) HXN.out
              refine region_ph (A := fun V => RgAt V xg x) (e1 := 9999) (B := fun _ => True) (e2 := 9999) (C := fun _ => True) (by kernel_rfl) ⟨HXD.out, fun _ => trivial, fun _ => trivial⟩ (fun hSt => ?_)
              refine take_ph 0 (.pointer (some ⟨xg, 1, none⟩)) [] rfl (by kernel_rfl) (fun _ _ _ h => h) (Or.inl ⟨by rfl, ?_⟩) hSt (fun hSn => ?_)
              · intro V _; clear k1 k2 k3 s1 s2 s3; go_simp
              clear hSt; rename Ph _ _ _ _ _ _ _ => hSt
              simp only [Act.put, List.setIfInBounds_toArray, List.set_cons_zero, List.set_cons_succ]
              refine take_ph 1 (.string x.t) [] rfl (by kernel_rfl) (fun _ _ _ h => h) (Or.inl ⟨by rfl, ?_⟩) hSt (fun hSn => ?_)
              · rintro V ⟨hh, _, _⟩; have e0 := FX.out V hh; clear hh k1 k2 k3 s1 s2 s3; go_simp
              clear hSt; rename Ph _ _ _ _ _ _ _ => hSt
              simp only [Act.put, List.setIfInBounds_toArray, List.set_cons_zero, List.set_cons_succ]
              refine take_ph 2 (.pointer (some ⟨xg, 5, none⟩)) [] rfl (by kernel_rfl) (fun _ _ _ h => h) (Or.inl ⟨by rfl, ?_⟩) hSt (fun hSn => ?_)
              · intro V _; clear k1 k2 k3 s1 s2 s3; go_simp
              clear hSt; rename Ph _ _ _ _ _ _ _ => hSt
              simp only [Act.put, List.setIfInBounds_toArray, List.set_cons_zero, List.set_cons_succ]
              refine take_ph 3 (.bool x.pt) [] rfl (by kernel_rfl) (fun _ _ _ h => h) (Or.inl ⟨by rfl, ?_⟩) hSt (fun hSn => ?_)
              · rintro V ⟨hh, _, _⟩; have e0 := FX.out V hh; clear hh k1 k2 k3 s1 s2 s3; go_simp
              clear hSt; rename Ph _ _ _ _ _ _ _ => hSt
              simp only [Act.put, List.setIfInBounds_toArray, List.set_cons_zero, List.set_cons_succ]
              refine take_ph 4 (.pointer (some ⟨n + 1 + 1 + 1, 1, none⟩)) [] rfl (by kernel_rfl) (fun _ _ _ h => h) (Or.inl ⟨by rfl, ?_⟩) hSt (fun hSn => ?_)
              · intro V _; clear k1 k2 k3 s1 s2 s3; go_simp
              clear hSt; rename Ph _ _ _ _ _ _ _ => hSt
              simp only [Act.put, List.setIfInBounds_toArray, List.set_cons_zero, List.set_cons_succ]
              refine ready_store_ph 5 rfl (by kernel_rfl) rfl 9 _ _ rfl _ _ rfl rfl s1 ⟨k1, fun _ => trivial, fun _ => trivial⟩ (fun hSn => ?_)
              clear hSt; rename Ph _ _ _ _ _ _ _ => hSt
              simp only [Act.put]
              refine take_ph 6 (.pointer (some ⟨n + 1 + 1 + 1, 3, none⟩)) [] rfl (by kernel_rfl) (fun _ _ _ h => h) (Or.inl ⟨by rfl, ?_⟩) hSt (fun hSn => ?_)
              · intro V _; clear k1 k2 k3 s1 s2 s3; go_simp
              clear hSt; rename Ph _ _ _ _ _ _ _ => hSt
              simp only [Act.put, List.setIfInBounds_toArray, List.set_cons_zero, List.set_cons_succ]
              refine ready_store_ph 7 rfl (by kernel_rfl) rfl 4 _ _ rfl _ _ rfl rfl s2 ⟨k2, fun _ => trivial, fun _ => trivial⟩ (fun hSn => ?_)
              clear hSt; rename Ph _ _ _ _ _ _ _ => hSt
              simp only [Act.put]
              refine take_ph 8 (.pointer (some ⟨n + 1 + 1 + 1, 5, none⟩)) [] rfl (by kernel_rfl) (fun _ _ _ h => h) (Or.inl ⟨by rfl, ?_⟩) hSt (fun hSn => ?_)
              · intro V _; clear k1 k2 k3 s1 s2 s3; go_simp
              clear hSt; rename Ph _ _ _ _ _ _ _ => hSt
              simp only [Act.put, List.setIfInBounds_toArray, List.set_cons_zero, List.set_cons_succ]
              refine ready_store_ph 9 rfl (by kernel_rfl) rfl 4 _ _ rfl _ _ rfl rfl s3 ⟨k3, fun _ => trivial, fun _ => trivial⟩ (fun hSn => ?_)
              clear hSt; rename Ph _ _ _ _ _ _ _ => hSt
              simp only [Act.put]
              refine done_ph (by kernel_rfl) ?_ _
              clear hSt
              refine NoPanic.normal ?_
              clear HM HX HXD FX s1 s2 s3 k1 k2 k3
              generalize ((wc.drew.setCell ⟨n + 1 + 1 + 1, 1, none⟩ (.string x.t)).setCell ⟨n + 1 + 1 + 1, 3, none⟩ (.bool true)).setCell ⟨n + 1 + 1 + 1, 5, none⟩ (.bool x.pt) = W9 at *
              have HM := HM2; have HX := HX2; clear HM2 HX2

              go_wp2_with fail
              go_roundw
              case rel => exact ⟨2, by omega, by go_num, by rw [HNX.out, HST2.out]; exact HM.out⟩
              case measure => simp [intOf]
            | false =>
              go_wp2_with fail
              go_roundw
              case rel => exact ⟨2, by omega, by go_num, by rw [HNX.out, HST2.out]; exact HM.out⟩
              case measure => simp [intOf]

        | false =>
          obtain ⟨W9, rfl⟩ : ∃ W9, W9 = wc := ⟨_, rfl⟩
          have HbT2 := HbT
          obtain ⟨r2, hr2⟩ : ∃ r2, r2 = r := ⟨_, rfl⟩
          rw [← hr2] at HM HbT2
          have HST2 : Hid (nx = bif bT then setT r2 x else r2) := by rw [HST.out, hr2]; unfold stepR; rw [← HbF.out, ← HbT.out]; rfl
          clear hr2 HST HbT HbF
          have HbT := HbT2
          clear HbT2
          obtain ⟨r, rfl⟩ : ∃ r, r = r2 := ⟨_, rfl⟩
          go_upto_region 10 with fail
          go_cut [73] from 9 to 80 (fun s wx => s = .bool bT ∧ wx = W9)
          case first =>
            have hx : RgAt W9 xg x := HX.out.at
            have hr : RgAt W9 (n + 1 + 1 + 1) r := HM.out.2.2.2.1.at
            obtain ⟨xf, xt, xhf, xht, xpf, xpt⟩ := x
            obtain ⟨rf, rt, rhf, rht, rpf, rpt⟩ := r
            unfold RgAt at hx hr
            obtain ⟨x0, x1, x2, x3, x4, x5⟩ := hx
            obtain ⟨r0, r1, r2, r3, r4, r5⟩ := hr
            cases xht with
            | false => go_wp2_with fail; go_meet; case rel => exact ⟨by rw [HbT.out]; rfl, rfl⟩
            | true =>
              cases rht with
              | false => go_wp2_with fail; go_meet; case rel => exact ⟨by rw [HbT.out]; rfl, rfl⟩
              | true =>
                rcases ord3 xt rt with ⟨h1, h2, h3, _, h4, h5, h6, _⟩ | ⟨h1, h2, h3, _, h4, h5, h6, _⟩ | ⟨h1, h2, h3, _, h4, h5, h6, _⟩
                all_goals (go_wp2_with fail; go_meet; case rel => exact ⟨by rw [HbT.out]; simp [cT, h4, h6], rfl⟩)
          case rest =>
            obtain ⟨rfl, hw1⟩ := hcut
            subst hw1
            cases bT with
            | true =>
              go_upto_region 11 with fail
              have HXD : Hid (RgAt wc.drew xg x) := (HX.out.on (below_drew _)).at
              have FX : Hid (∀ V, RgAt V xg x → RgAt V xg x) := fun _ h => h
              unfold RgAt at FX
              have hrb := HM.out.2.2.2.1.on (below_drew _)
              obtain ⟨s1, s2, s3⟩ := stT hrb x
              have HM2 : Hid (MI w n a b (setT r x) (((wc.drew.setCell ⟨n + 1 + 1 + 1, 1, none⟩ (.string x.t)).setCell ⟨n + 1 + 1 + 1, 3, none⟩ (.bool true)).setCell ⟨n + 1 + 1 + 1, 5, none⟩ (.bool x.pt))) := HM.out.drew.setT x
              have HX2 : Hid (RB (((wc.drew.setCell ⟨n + 1 + 1 + 1, 1, none⟩ (.string x.t)).setCell ⟨n + 1 + 1 + 1, 3, none⟩ (.bool true)).setCell ⟨n + 1 + 1 + 1, 5, none⟩ (.bool x.pt)) xg x) := (HX.out.on (below_drew _)).far3 HXN.out
              clear hrb
              refine wp_region_noPanic ?_
              obtain ⟨k1, k2, k3⟩ := far123 (g := n + 1 + 1 + 1) (os := (1, 3, 5)) (a := .string x.t) (b := .bool true) (c := .bool x.pt) (HX.out.on (below_drew _)) HXN.out
              refine region_ph (A := fun V => RgAt V xg x) (e1 := 9999) (B := fun _ => True) (e2 := 9999) (C := fun _ => True) (by kernel_rfl) ⟨HXD.out, fun _ => trivial, fun _ => trivial⟩ (fun hSt => ?_)
              refine take_ph 0 (.pointer (some ⟨xg, 1, none⟩)) [] rfl (by kernel_rfl) (fun _ _ _ h => h) (Or.inl ⟨by rfl, ?_⟩) hSt (fun hSn => ?_)
              · intro V _; clear k1 k2 k3 s1 s2 s3; go_simp
              clear hSt; rename Ph _ _ _ _ _ _ _ => hSt
              simp only [Act.put, List.setIfInBounds_toArray, List.set_cons_zero, List.set_cons_succ]
              refine take_ph 1 (.string x.t) [] rfl (by kernel_rfl) (fun _ _ _ h => h) (Or.inl ⟨by rfl, ?_⟩) hSt (fun hSn => ?_)
              · rintro V ⟨hh, _, _⟩; have e0 := FX.out V hh; clear hh k1 k2 k3 s1 s2 s3; go_simp
              clear hSt; rename Ph _ _ _ _ _ _ _ => hSt
              simp only [Act.put, List.setIfInBounds_toArray, List.set_cons_zero, List.set_cons_succ]
              refine take_ph 2 (.pointer (some ⟨xg, 5, none⟩)) [] rfl (by kernel_rfl) (fun _ _ _ h => h) (Or.inl ⟨by rfl, ?_⟩) hSt (fun hSn => ?_)
              · intro V _; clear k1 k2 k3 s1 s2 s3; go_simp
              clear hSt; rename Ph _ _ _ _ _ _ _ => hSt
              simp only [Act.put, List.setIfInBounds_toArray, List.set_cons_zero, List.set_cons_succ]
              refine take_ph 3 (.bool x.pt) [] rfl (by kernel_rfl) (fun _ _ _ h => h) (Or.inl ⟨by rfl, ?_⟩) hSt (fun hSn => ?_)
              · rintro V ⟨hh, _, _⟩; have e0 := FX.out V hh; clear hh k1 k2 k3 s1 s2 s3; go_simp
              clear hSt; rename Ph _ _ _ _ _ _ _ => hSt
              simp only [Act.put, List.setIfInBounds_toArray, List.set_cons_zero, List.set_cons_succ]
              refine take_ph 4 (.pointer (some ⟨n + 1 + 1 + 1, 1, none⟩)) [] rfl (by kernel_rfl) (fun _ _ _ h => h) (Or.inl ⟨by rfl, ?_⟩) hSt (fun hSn => ?_)
              · intro V _; clear k1 k2 k3 s1 s2 s3; go_simp
              clear hSt; rename Ph _ _ _ _ _ _ _ => hSt
              simp only [Act.put, List.setIfInBounds_toArray, List.set_cons_zero, List.set_cons_succ]
              refine ready_store_ph 5 rfl (by kernel_rfl) rfl 9 _ _ rfl _ _ rfl rfl s1 ⟨k1, fun _ => trivial, fun _ => trivial⟩ (fun hSn => ?_)
              clear hSt; rename Ph _ _ _ _ _ _ _ => hSt
              simp only [Act.put]
              refine take_ph 6 (.pointer (some ⟨n + 1 + 1 + 1, 3, none⟩)) [] rfl (by kernel_rfl) (fun _ _ _ h => h) (Or.inl ⟨by rfl, ?_⟩) hSt (fun hSn => ?_)
              · intro V _; clear k1 k2 k3 s1 s2 s3; go_simp
              clear hSt; rename Ph _ _ _ _ _ _ _ => hSt
              simp only [Act.put, List.setIfInBounds_toArray, List.set_cons_zero, List.set_cons_succ]
              refine ready_store_ph 7 rfl (by kernel_rfl) rfl 4 _ _ rfl _ _ rfl rfl s2 ⟨k2, fun _ => trivial, fun _ => trivial⟩ (fun hSn => ?_)
              clear hSt; rename Ph _ _ _ _ _ _ _ => hSt
              simp only [Act.put]
              refine take_ph 8 (.pointer (some ⟨n + 1 + 1 + 1, 5, none⟩)) [] rfl (by kernel_rfl) (fun _ _ _ h => h) (Or.inl ⟨by rfl, ?_⟩) hSt (fun hSn => ?_)
              · intro V _; clear k1 k2 k3 s1 s2 s3; go_simp
              clear hSt; rename Ph _ _ _ _ _ _ _ => hSt
              simp only [Act.put, List.setIfInBounds_toArray, List.set_cons_zero, List.set_cons_succ]
              refine ready_store_ph 9 rfl (by kernel_rfl) rfl 4 _ _ rfl _ _ rfl rfl s3 ⟨k3, fun _ => trivial, fun _ => trivial⟩ (fun hSn => ?_)
              clear hSt; rename Ph _ _ _ _ _ _ _ => hSt
              simp only [Act.put]
              refine done_ph (by kernel_rfl) ?_ _
              clear hSt
              refine NoPanic.normal ?_
              clear HM HX HXD FX s1 s2 s3 k1 k2 k3
              generalize ((wc.drew.setCell ⟨n + 1 + 1 + 1, 1, none⟩ (.string x.t)).setCell ⟨n + 1 + 1 + 1, 3, none⟩ (.bool true)).setCell ⟨n + 1 + 1 + 1, 5, none⟩ (.bool x.pt) = W9 at *
              have HM := HM2; have HX := HX2; clear HM2 HX2

              go_wp2_with fail
              go_roundw
              case rel => exact ⟨2, by omega, by go_num, by rw [HNX.out, HST2.out]; exact HM.out⟩
              case measure => simp [intOf]
            | false =>
              go_wp2_with fail
              go_roundw
              case rel => exact ⟨2, by omega, by go_num, by rw [HNX.out, HST2.out]; exact HM.out⟩
              case measure => simp [intOf]

    · have hr : RgAt wr (n + 1 + 1 + 1) (stR a b 2) := HI.out.2.2.2.1.at
      unfold RgAt at hr
      obtain ⟨r0, r1, r2, r3, r4, r5⟩ := hr
      obtain ⟨V, hst, hRg, hB, _⟩ := store_rr (N := n) (w := w) (stR a b 2) HI.out.2.2.1 rfl (by omega) HI.out.2.2.2.2
      obtain ⟨g0, g1, g2, g3, g4, g5⟩ := hRg
      have HB := Lib.hid hB
      clear hB HI
      obtain ⟨r, hr⟩ : ∃ r, r = stR a b 2 := ⟨_, rfl⟩
      rw [← hr] at r0 r1 r2 r3 r4 r5 hst g0 g1 g2 g3 g4 g5
      have HRr := Lib.hid hr
      clear hr
      go_wp2_with (first | (refine wpList_store_at rfl _ _ _ rfl _ _ rfl rfl hst ?_; clear hst) | fail)
      refine bodyPost_ret (v := .agg #[.string r.f, .string r.t, .bool r.hf, .bool r.ht, .bool r.pf, .bool r.pt]) ?_ rfl ⟨by rw [HRr.out]; rfl, by rw [HNn.out]; exact HB.out⟩
      rw [results_cell rfl]
      go_simp
end Go.Proofs.Yteeojhmdefhlmaa
