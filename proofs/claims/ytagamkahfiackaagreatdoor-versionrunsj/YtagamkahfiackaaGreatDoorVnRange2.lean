/- Range. -/
import Derived.Test.YtagamkahfiackaaGreatDoorVnRange
import Derived.Test.YtagamkahfiackaaGreatDoorVnIn
import Derived.Test.YtagamkahfiackaaGreatDoorVKeys
namespace Go.Proofs.YtagamkahfiackaaGreatDoor
open Go.RowKit Go.Sort Go.Shelf

attribute [local go_sem] Oper.semAt_some
/-- What Range tells. -/
def RangeTo (w : World) (P : List (ByteArray × ByteArray)) (e : Ending) (w' : World) : Prop := ∃ (a : Option Addr) (c : Nat) (Z : List MI), e = .returned (.slice a Z.length c) ∧
  Hid (RowO w' w.heap.size (.slice a Z.length c) (Z.map (·.1)) ∧ Z.map mi = P ∧ (∀ z ∈ Z, RowAt w' z.1.2 z.2) ∧ Below w.heap.size w w')
theorem run_buildVn (w : World) (k : ByteArray) (a : Option Addr) (n c : Nat) (ac : Act) (o : Oper) (y : Operand) (h : o.op = .buildSlice 40 1 #[(0, y)]) (hy : ac.eval y = .agg #[.string k, .slice a n c]) : (execOp ac.eval o).run Tryz.prog w = .ok (.value (.slice (some ⟨w.heap.size, 0, none⟩) 1 1)) (w.alloc (.cells #[.string k, .slice a n c] 74)) := by
  unfold execOp
  simp only [h, List.map_toArray, List.map_cons, List.map_nil, hy]
  simp [Instr.buildSlice, go_sem]
def RgJ {l : List It} (w : World) (ob : Nat) (rd : Nat → List MV) (t : Int) (pre : List (Inl l)) (V : World) : Prop := ∃ v Z, RgI w ob (pre.map fun x => prI rd t x.1) v Z V ∧ KpR ob w V
theorem chain_rw {W w V : World} {ps p : Nat} {M : Nat → Option Nd} {F : Nat → Prop} {l : List It} {rd : Nat → List MV} {ob : Nat} (hd : VnD W w ps p M F l rd) (hok : OkM (mdl rd l)) (t : Int) (ho : ∀ k, k < w.heap.size → k ≠ ob) (hV : KpR ob w V) (x : It) (hx : x ∈ l) :
    RowAt V (rwV (asL (ctV rd x.2) t)) ((rowC (fV rd x.2) t).getD ⟨#[]⟩) := by
  obtain ⟨g, e, hc⟩ := hd.ch.at' x hx
  have hx2 : (x.1, fV rd x.2) ∈ mdl rd l := List.mem_map_of_mem hx
  have hasc : AscC (fV rd x.2) := hok.asc _ hx2
  have ec : ctV rd x.2 = rd g := by unfold ctV; rw [e]
  have hcV : ChAt V W.heap.size x.2 (rd g) := hc.keep (fun g' hg' => by
      obtain ⟨cur, hb⟩ := hc.blk hg'
      exact (hV.2 g' cur _ (ho g' (blk_lt hb)) (by decide) hb).trans hb.symm) (fun g' cur hb => (hV.2 g' cur _ (ho g' (blk_lt hb)) (by decide) hb).trans hb.symm)
  unfold fV at hasc ⊢
  rw [ec] at hasc ⊢
  exact (rw_row hcV hasc t).1
set_option maxRecDepth 100000 in
set_option maxHeartbeats 4000000 in
theorem vrange_ {W w : World} {ps : Nat} {m : List Ct} (h : VnAt W w ps m) (hm : nVer m ≤ 1000000) (r : Rg) (t : Int) :
    Calls Tryz.prog 10 #[.pointer (some ⟨ps, 0, none⟩), rgV r, .int .i64 t] w (RangeTo w (rowsM r t m)) := by
  obtain ⟨p, M, F, l, rd, hd, rfl⟩ := h.ex
  have hlen : l.length ≤ 1000000 := by
    have := h.ok.len
    rw [mdl_len] at this
    omega
  rw [rows_eq]
  have HS := Lib.hid hlen
  have HA : Hid (∀ V, Calls Tryz.prog 28 #[.pointer (some ⟨ps, 0, none⟩), rgV r, .int .i64 t] V (RowsTo ps r t V)) := fun V => rows_ ps r t V
  obtain ⟨W1, hW1⟩ : ∃ W1, W1 = (w.alloc (.cells #[.string r.f, .string r.t, .bool r.hf, .bool r.ht, .bool r.pf, .bool r.pt] 28)).alloc (.cells #[.slice none 0 0] 40) := ⟨_, rfl⟩
  obtain ⟨b0, b1, b2⟩ := two_box w (.cells #[.string r.f, .string r.t, .bool r.hf, .bool r.ht, .bool r.pf, .bool r.pt] 28) (.cells #[.slice none 0 0] 40)
  rw [← hW1] at b0 b1 b2
  have HB1 : Hid (RgI w (w.heap.size + 1) (([] : List (Inl l)).map fun x => prI rd t x.1) (.slice none 0 0) [] W1 ∧ W1.heap.size = w.heap.size + 1 + 1) := ⟨⟨b2, World.ownsRow_nil _ _ _ _, rfl, fun z hz => (by cases hz), b0, Nat.le_succ _⟩, by rw [hW1]; simp [go_sem]⟩
  have c0 := cell_of (o := 0) b1 rfl
  have c1 := cell_of (o := 1) b1 rfl
  have c2 := cell_of (o := 2) b1 rfl
  have c3 := cell_of (o := 3) b1 rfl
  have c4 := cell_of (o := 4) b1 rfl
  have c5 := cell_of (o := 5) b1 rfl
  have HD := Lib.hid (And.intro hd (And.intro h.ok hm))
  clear h hd hlen hm b0 b1 b2
  unfold rgV at *
  refine callsIn_wide.1 (callsIn_of_wp_marks (n := 9) Tryz.func10 rfl (wide_fn _) (wpIn_wide.2 ?_) wide_round)
  simp only [Tryz.ntmps10, List.size_toArray, List.length_cons, List.length_nil, Nat.reduceAdd, Nat.reduceSub, Array.replicate_succ, Array.replicate_zero, List.push_toArray, List.append_toArray, List.nil_append, List.cons_append]
  go_upto_region 2 with fail
  rw [← hW1]
  clear hW1
  go_wp2_with (first
    | (go_at_call 28; refine (HA.out _).mono ?_; rintro e W2 ⟨bs, br, bt, rfl, HX⟩; clear HA)
    | fail)
  obtain ⟨x1, x2, x3, x4, x5⟩ := HX.out
  obtain ⟨y1, y2⟩ := HB1.out
  have hW2 : Below w.heap.size w W2 := below_step y1.old x1
  have hbl : w.heap.size + 1 < W2.heap.size := by have := x1.size; omega
  have hI0 : RgJ w (w.heap.size + 1) rd t ([] : List (Inl l)) W2 := ⟨_, _, y1.on x1, kpR_below hW2⟩
  have hseq := rows1_ (ob := w.heap.size + 1) (D := W2.heap.size + 2) HD.out.1 HD.out.2.1 HD.out.2.2 r t hW2 x2 ⟨by omega, by omega, by omega, by omega⟩
  clear x1 x2 x3 x4 x5 y1 y2 HX HB1 hW2 c0 c1 c2 c3 c4 c5
  rw [← wpIn_wide (n := 9)]
  apply range_over (encs := encR (l := l) rd t) (Kp := KpR (w.heap.size + 1)) (S := fun ys => ys.map (·.1) = (selR r l).filter (hvI rd t)) (Sp := fun _ => True) (N := l.length) (w0 := W2) (gf := 47) (lb := #[.pointer (some ⟨bs, 0, none⟩), .pointer (some ⟨br, 0, none⟩), .pointer (some ⟨bt, 0, none⟩)]) rfl (enters_of Tryz.func47 (by kernel_rfl) rfl) hseq kpR_t (fun V q o o' _ hq ho => kpR_put _ V q o' hq ho) (Below.refl _ _) (fun _ => rfl)
    (fun pre V => RgJ w (w.heap.size + 1) rd t pre V) (fun _ _ _ => False)
    (fun pre V V' row hi hg hr => by
      obtain ⟨v, Z, h1, h2⟩ := hi
      exact ⟨v, Z, h1.grown (by omega) hg hr, kpR_own (β := Unit) _ _ w () V V' row h2 hg hr⟩) (fun cc pre V V' row hi hg hr => hi) hI0
  case hassign =>
    intro ll x V KK hK
    unfold encR
    rw [fold2]
    simp only [List.setIfInBounds_toArray, List.set_cons_zero, List.set_cons_succ]
    gi_wp2
    exact hK
  case hbody =>
    rintro ll pre ⟨x, hx⟩ V ⟨v, Z, hi, hkp⟩ hlen
    have hrw := chain_rw (ob := w.heap.size + 1) HD.out.1 HD.out.2.1 t (fun k hk => by omega) hkp x hx
    have HP : Hid ((pre ++ [(⟨x, hx⟩ : Inl l)]).map (fun x => prI rd t x.1) = (pre.map fun x => prI rd t x.1) ++ [(x.1, (rowC (fV rd x.2) t).getD ⟨#[]⟩)]) := by show _ = _; rw [List.map_append]; rfl
    have HZ : Hid ((Z.map (·.1)).length ≤ 1000000) := by
      show _ ≤ _
      have := congrArg List.length hi.eq
      rw [List.length_map, List.length_map] at this
      rw [List.length_map, this]
      have := HS.out
      omega
    have HC : Hid (Calls Tryz.prog 25 #[.slice (rwV (asL (ctV rd x.2) t)).a (rwV (asL (ctV rd x.2) t)).n (rwV (asL (ctV rd x.2) t)).c] V.drew (Made V.drew ((rowC (fV rd x.2) t).getD ⟨#[]⟩))) := by
      have hr := hrw.on (below_drew V)
      obtain ⟨r1, r2, r3⟩ := hr.bytes
      exact clone_ r1 r2 r3 hr.le
    have c0 := hi.bx.cell
    have HI := Lib.hid hi
    have HKP := Lib.hid hkp
    clear hi hkp hlen hrw
    dsimp only
    generalize rwV (asL (ctV rd x.2) t) = rv at *
    generalize (rowC (fV rd x.2) t).getD ⟨#[]⟩ = s at *
    have hmx : Tryz.prog.follows .mixedOrders = true := by kernel_rfl
    gi_wp2
    refine region_in (A := fun _ => True) (e1 := 7) (B := fun V => V.cell? ⟨w.heap.size + 1, 0, none⟩ = some v) (e2 := 7) (C := fun _ => True) (by kernel_rfl) (by kernel_rfl) (by rintro ⟨_, _, h⟩; exact h) ⟨trivial, fun _ => c0, fun _ => trivial⟩ (fun hSt => ?_)
    refine take_ph 0 v [7] rfl (by kernel_rfl) (fun _ _ _ h => h) (Or.inl ⟨by rfl, ?_⟩) hSt (fun hSn => ?_)
    · rintro V ⟨_, hB, hC⟩; have e0 := hB (by decide); clear hB hC; go_simp
    clear hSt; rename Ph _ _ _ _ _ _ _ => hSt
    simp only [Act.put, List.setIfInBounds_toArray, List.set_cons_zero, List.set_cons_succ]
    refine take_ph 1 (.string x.1) [] rfl (by kernel_rfl) (fun _ _ _ h => h) (Or.inl ⟨by rfl, ?_⟩) hSt (fun hSn => ?_)
    · intro V _; go_simp
    clear hSt; rename Ph _ _ _ _ _ _ _ => hSt
    simp only [Act.put, List.setIfInBounds_toArray, List.set_cons_zero, List.set_cons_succ]
    refine take_ph 2 (.slice rv.a rv.n rv.c) [] rfl (by kernel_rfl) (fun _ _ _ h => h) (Or.inl ⟨by rfl, ?_⟩) hSt (fun hSn => ?_)
    · intro V _; go_simp
    clear hSt; rename Ph _ _ _ _ _ _ _ => hSt
    simp only [Act.put, List.setIfInBounds_toArray, List.set_cons_zero, List.set_cons_succ]
    refine ready_call_ph 3 rfl (by kernel_rfl) (fun KK hK => ?_)
    go_simp
    go_wp2_with (first | (go_at_call 25; refine HC.out.mono ?_; rintro e w1 ⟨q, rfl, hq1, hq2, hq3⟩))
    have hb1 := below_step (below_drew V) hq3
    have h0 := HI.out.on hb1
    refine hK.out _ _ ?_ (fun hSn => ?_)
    · exact ⟨trivial, fun _ => h0.bx.cell, fun _ => trivial⟩
    clear hK KK hSt; rename Ph _ _ _ _ _ _ _ => hSt
    have h1 := HI.out.on (below_step hb1 (below_alloc w1 (.cells #[.string x.1, .slice q.a q.n q.c] 74)))
    obtain ⟨U, hU⟩ : ∃ U, U = w1.alloc (.cells #[.string x.1, .slice q.a q.n q.c] 74) := ⟨_, rfl⟩
    have hrb : Hid (∀ (a : Act) (o : Oper) (z : Operand), o.op = .buildSlice 40 1 #[(0, z)] → a.eval z = .agg #[.string x.1, .slice q.a q.n q.c] → (execOp a.eval o).run Tryz.prog w1 = .ok (.value (.slice (some ⟨w1.heap.size, 0, none⟩) 1 1)) U) := fun a o z h1 h2 => by rw [hU]; exact run_buildVn w1 x.1 q.a q.n q.c a o z h1 h2
    obtain ⟨a2, n2, cp2, w2, hap, ho, hg⟩ := app_vni (x := (x.1, q)) h1.own (new_blk w1 _) HZ.out h1.old.size
    have HSt := Lib.hid (HI.out.step hb1 (y := (x.1, q)) hq1 (fun g hg' => Nat.le_trans HI.out.old.size (hq2 g hg')) ho hg)
    have k2 : Hid (U.cell? ⟨w.heap.size + 1, 0, none⟩ = some v) := by rw [hU]; exact h1.bx.cell
    rw [← hU] at hap
    clear hU h0 h1 ho hg hq1 hq2 hq3 hb1
    have HKF : Hid (KeepsFrom W2.heap.size V (w2.setCell ⟨w.heap.size + 1, 0, none⟩ (.slice a2 n2 cp2))) := ⟨by rw [size_set]; exact HSt.out.2.2.2.1, fun k o _ hko hc => HSt.out.2.2.1 k o hko hc⟩
    have HFin : Hid (RgJ w (w.heap.size + 1) rd t (pre ++ [(⟨x, hx⟩ : Inl l)]) (w2.setCell ⟨w.heap.size + 1, 0, none⟩ (.slice a2 n2 cp2))) := ⟨_, _, by rw [HP.out]; exact HSt.out.1, kpR_t HKP.out HSt.out.2.1⟩
    have c9 := HSt.out.2.2.2.2.cell
    have f9 := HSt.out.2.2.2.2.frozen
    refine take_ph 4 (.agg #[.string x.1, .slice q.a q.n q.c]) [] rfl (by kernel_rfl) (fun _ _ _ h => h) (Or.inl ⟨by rfl, ?_⟩) hSt (fun hSn => ?_)
    · intro V _; go_simp
    clear hSt; rename Ph _ _ _ _ _ _ _ => hSt
    simp only [Act.put, List.setIfInBounds_toArray, List.set_cons_zero, List.set_cons_succ]
    refine ready_ph 5 rfl (by kernel_rfl) rfl (.inl (hrb.out _ _ _ rfl rfl)) (⟨trivial, fun _ => k2.out, fun _ => trivial⟩) (fun hSn => ?_)
    clear hSt; rename Ph _ _ _ _ _ _ _ => hSt
    simp only [Act.put, List.setIfInBounds_toArray, List.set_cons_zero, List.set_cons_succ]
    refine ready_ph 6 rfl (by kernel_rfl) rfl (.inl (exec_append rfl rfl rfl hap)) (⟨trivial, fun _ => c9, fun _ => trivial⟩) (fun hSn => ?_)
    clear hSt; rename Ph _ _ _ _ _ _ _ => hSt
    simp only [Act.put, List.setIfInBounds_toArray, List.set_cons_zero, List.set_cons_succ]
    refine ready_store_ph 7 rfl (by kernel_rfl) rfl 40 _ _ rfl (.pointer (some ⟨w.heap.size + 1, 0, none⟩)) (.slice a2 n2 cp2) rfl rfl (store_sl c9 f9 (by kernel_rfl)) (⟨trivial, fun h => absurd (show true = false from h) (by decide), fun _ => trivial⟩) (fun hSn => ?_)
    clear hSt; rename Ph _ _ _ _ _ _ _ => hSt
    refine done_ph (by kernel_rfl) ?_ _
    clear hSt
    refine NoPanic.normal ?_
    clear hrb hap HC c9 f9 k2
    gi_wp2
    exact ⟨HKF.out, HSt.out.2.1, HFin.out⟩
  case hstop =>
    rintro D cc pre V hD hsp hix hK
    exact hix.elim
  case hdone =>
    rintro D1 ys V hD1 hys ⟨v, Z, hi, _⟩ hK1
    obtain ⟨a, c, rfl, _⟩ := row_shape hi.own
    have HI := Lib.hid (And.intro hi (And.intro hK1 hys))
    have c0 := hi.bx.cell
    clear hi hK1 hseq hys
    go_wp2_with fail
    obtain ⟨hi, hK, hys⟩ := HI.out
    have hp := hi.grown (B := w.heap.size) (Nat.le_refl _) (grownBy_putObj' V D1 (.deferred none)) (fun q e => by cases e; exact ⟨by omega, _, hK, rfl⟩)
    have eP : (ys.map fun x => prI rd t x.1) = ((selR r l).filter (hvI rd t)).map (prI rd t) := by rw [← hys, List.map_map]; rfl
    rw [eP] at hp
    have el : (Z.map (·.1)).length = Z.length := by simp
    rw [el] at hp
    refine ⟨by simp, .inl ⟨_, _, rfl, run_takeDeferred hK, ?_⟩⟩
    exact ⟨.slice a (Z.map (·.1)).length c, by simp [results, Tryz.results10, go_sem], a, c, Z, by rw [el], hp.own, hp.eq, fun z hz => (hp.rows z hz).1, hp.old⟩
end Go.Proofs.YtagamkahfiackaaGreatDoor
