/- A region that draws its order, in a round: walked as outside of one; Range; A nil store of versions: its rows of keys in a range: none. -/
import Derived.Test.YtalmanfjiblhcaaGreatJ33
import Derived.CallsIn
import Derived.OrdersIn
import Derived.OwnWalkIn
import Derived.RangeFuncCalls
import Derived.Test.YtalmanfjiblhcaaGreatJ35
import Derived.Test.YtalmanfjiblhcaaGreatJ29
namespace Go.Proofs.YtalmanfjiblhcaaGreat
open Go.RowKit Go.Sort Go.Deep
section
variable {P : Program} {ll n : Nat}
theorem rows_in_round {row : String} {args : Array Value} {w : World} {R : Value → World → Prop} (h : Rows P row args w R) : RowsIn (Fence.wide.inRound ll) n P row args w R := fun c cs _ => by
 obtain ⟨v, w', hr, hs⟩ := h c cs
 exact ⟨v, w', hr, (stepsIn_wide.2 hs : StepsIn (Machine.fenced P Fence.wide) P _ _)⟩
def noDefer (l : List Oper) : Bool := l.all fun o => match o.op with
 | .defer _ => false
 | _ => true
theorem noDefer_at {l : List Oper} (h : noDefer l = true) {i : Nat} {o : Oper} (ho : l.toArray[i]? = some o) : ∀ c, o.op ≠ .defer c := fun c e => by
 have := List.all_eq_true.1 h o (List.mem_of_getElem? (by simpa using ho))
 rw [e] at this
 cases this
theorem oper_in_round {o : Oper} (hd : ∀ c, o.op ≠ .defer c) {a : Act} {w : World} {K K' : Act → World → Prop} {Q : Exit → Act → World → Prop} (hK : ∀ a w, K a w → K' a w) (h : o.wp P a w K Q) : o.wpIn (Fence.wide.inRound ll) n P a w K' Q := by
 refine ⟨fun _ _ => trivial, ?_⟩
 rw [Oper.semAt_plain (Fence.wide.inRound ll) _ _ hd]
 unfold Oper.wp at h
 revert h
 generalize (execOp a.eval o).run P w = r
 intro h
 cases r with
 | ok v w' =>
   cases v with
   | value v => exact hK _ _ h
   | skip => exact hK _ _ h
   | defer d => exact hK _ _ h
   | enter f args =>
     refine ⟨fun hh => (by cases hh), ?_⟩
     refine (CallsIn.inRound ll (callsIn_wide.2 h)).mono ?_
     intro e w'' he
     cases e with
     | returned v => exact hK _ _ he
     | panicked c => exact he
     | outgrown => exact he
   | row row args =>
     refine ⟨fun hh => (by cases hh), ?_⟩
     exact (rows_in_round h).mono fun v w'' hv => hK _ _ hv
   | _ => exact False.elim h
 | halt hh w' =>
   cases hh with
   | panic v => exact h
   | _ => exact False.elim h
theorem any_in_round {l : List Oper} (hd : noDefer l = true) {md : Region.Mode} {Q : Exit → Act → World → Prop} (hlo : ¬ LetsOut Q) : ∀ (fuel : Nat) (listed : Array Bool) (a : Act) (w : World), wpAny P md l.toArray Q fuel listed a w → wpAnyIn (Fence.wide.inRound ll) n P md l.toArray Q fuel listed a w
 | 0, _, _, _, h => h
 | fuel + 1, listed, a, w, h => ⟨h.1, fun i hi => by
    have h2 := h.2 i hi
    unfold wpOp at h2
    unfold wpOpIn
    cases ho : l.toArray[i]? with
    | none =>
      rw [ho] at h2
      exact any_in_round hd hlo fuel _ _ _ h2
    | some o =>
      rw [ho] at h2
      simp only at h2 ⊢
      split
      · rename_i hw
        rw [if_pos hw] at h2
        exact oper_in_round (noDefer_at hd ho) (fun a w h => any_in_round hd hlo fuel _ a w h) (h2.resolve_right fun q => hlo q.2)
      · rename_i hw
        rw [if_neg hw] at h2
        exact ⟨fun _ _ => trivial, any_in_round hd hlo fuel _ _ _ h2⟩⟩
theorem region_in {l : List Oper} {Q : Exit → Act → World → Prop} {A B C : World → Prop} {e1 e2 id : Nat} {a : Act} {w : World} (hm : P.follows .mixedOrders = true) (hd : noDefer l = true) (hlo : ¬ LetsOut (NoPanic Q)) (hS : Ph A e1 B e2 C (Array.replicate l.length false) w.drew)
 (h : Ph A e1 B e2 C (Array.replicate l.length false) w.drew → wpAnyS P .any l.toArray (NoPanic Q) (Ph A e1 B e2 C) l.length (Array.replicate l.length false) a w.drew) : (Code.region id l.toArray true).wpIn (Fence.wide.inRound ll) n P Q a w := by
 refine wpIn_mono (wpIn_region_any (Q := NoPanic Q) hm (any_in_round hd hlo _ _ _ _ (wpAny_of_S (S := Ph A e1 B e2 C) _ _ _ _ ?_))) NoPanic.imp
 rw [List.size_toArray]
 exact h hS
end
end Go.Proofs.YtalmanfjiblhcaaGreat
namespace Go.Proofs.YtalmanfjiblhcaaGreat
open Go.RowKit Go.Sort Go.Shelf
attribute [local go_sem] Oper.semAt_some
def RangeTo (w : World) (P : List (ByteArray × ByteArray)) (e : Ending) (w' : World) : Prop := ∃ (a : Option Addr) (c : Nat) (Z : List MI), e = .returned (.slice a Z.length c) ∧
 Hid (RowO w' w.heap.size (.slice a Z.length c) (Z.map (·.1)) ∧ Z.map mi = P ∧ (∀ z ∈ Z, RowAt w' z.1.2 z.2) ∧ Below w.heap.size w w')
theorem run_buildVn (w : World) (k : ByteArray) (a : Option Addr) (n c : Nat) (ac : Act) (o : Oper) (y : Operand) (h : o.op = .buildSlice 96 1 #[(0, y)]) (hy : ac.eval y = .agg #[.string k, .slice a n c]) : (execOp ac.eval o).run Tryz.prog w = .ok (.value (.slice (some ⟨w.heap.size, 0, none⟩) 1 1)) (w.alloc (.cells #[.string k, .slice a n c] 102)) := by
 unfold execOp
 simp only [h, List.map_toArray, List.map_cons, List.map_nil, hy]
 simp [Instr.buildSlice, go_sem]
def RgJ {l : List It} (w : World) (ob : Nat) (rd : Nat → List MV) (t : Int) (pre : List (Inl l)) (V : World) : Prop := ∃ v Z, RgI w ob (pre.map fun x => prI rd t x.1) v Z V ∧ KpR ob w V
theorem chain_rw {W : Zn} {w V : World} {ps p : Nat} {M : Nat → Option Nd} {F : Nat → Prop} {l : List It} {rd : Nat → List MV} {ob : Nat} (hd : VnD W w ps p M F l rd) (hok : OkM (mdl rd l)) (t : Int) (ho : ∀ k, k < w.heap.size → k ≠ ob) (hV : KpR ob w V) (x : It) (hx : x ∈ l) :
 RowAt V (rwV (asL (ctV rd x.2) t)) ((rowC (fV rd x.2) t).getD ⟨#[]⟩) := by
 obtain ⟨g, e, hc⟩ := hd.ch.at' x hx
 have hx2 : (x.1, fV rd x.2) ∈ mdl rd l := List.mem_map_of_mem hx
 have hasc : AscC (fV rd x.2) := hok.asc _ hx2
 have ec : ctV rd x.2 = rd g := by unfold ctV; rw [e]
 have hcV : ChAt V W.S x.2 (rd g) := hc.keep (fun g' hg' => by
  obtain ⟨cur, hb⟩ := hc.blk hg'
  exact (hV.2 g' cur _ (ho g' (blk_lt hb)) (by decide) hb).trans hb.symm) (fun g' cur hb => (hV.2 g' cur _ (ho g' (blk_lt hb)) (by decide) hb).trans hb.symm)
 unfold fV at hasc ⊢
 rw [ec] at hasc ⊢
 exact (rw_row hcV hasc t).1
set_option maxRecDepth 100000 in
set_option maxHeartbeats 4000000 in
theorem vrange_ {W : Zn} {w : World} {ps : Nat} {m : List Ct} (h : VnAt W w ps m) (hm : nVer m ≤ 1000000) (r : Rg) (t : Int) :
 Calls Tryz.prog 26 #[.pointer (some ⟨ps, 0, none⟩), rgV r, .int .i64 t] w (RangeTo w (rowsM r t m)) := by
 obtain ⟨p, M, F, l, rd, hd, rfl⟩ := h.ex
 have hlen : l.length ≤ 1000000 := by
  have := h.ok.len
  rw [mdl_len] at this
  omega
 rw [rows_eq]
 have HS := Lib.hid hlen
 have HA : Hid (∀ V, Calls Tryz.prog 50 #[.pointer (some ⟨ps, 0, none⟩), rgV r, .int .i64 t] V (RowsTo ps r t V)) := fun V => rows_ ps r t V
 obtain ⟨W1, hW1⟩ : ∃ W1, W1 = (w.alloc (.cells #[.string r.f, .string r.t, .bool r.hf, .bool r.ht, .bool r.pf, .bool r.pt] 46)).alloc (.cells #[.slice none 0 0] 96) := ⟨_, rfl⟩
 obtain ⟨b0, b1, b2⟩ := two_box w (.cells #[.string r.f, .string r.t, .bool r.hf, .bool r.ht, .bool r.pf, .bool r.pt] 46) (.cells #[.slice none 0 0] 96)
 rw [← hW1] at b0 b1 b2
 have HB1 : Hid (RgI w (w.heap.size + 1) (([] : List (Inl l)).map fun x => prI rd t x.1) (.slice none 0 0) [] W1 ∧ W1.heap.size = w.heap.size + 1 + 1) := ⟨⟨b2, World.ownsRow_nil _ _ _ _, rfl, fun z hz => (by cases hz), b0, Nat.le_succ _⟩, by rw [hW1]; simp [go_sem]⟩
 have c0 := cell_of (o := 0) b1 rfl
 have c1 := cell_of (o := 1) b1 rfl
 have c2 := cell_of (o := 2) b1 rfl
 have c3 := cell_of (o := 3) b1 rfl
 have c4 := cell_of (o := 4) b1 rfl
 have c5 := cell_of (o := 5) b1 rfl
 have HD := Lib.hid (And.intro hd (And.intro h.ok hm))
 clear h hd hlen hm b0 b1 b2
 unfold rgV at *
 refine callsIn_wide.1 (callsIn_of_wp_marks (n := 9) Tryz.func26 rfl (wide_fn _) (wpIn_wide.2 ?_) wide_round)
 simp only [Tryz.ntmps26, List.size_toArray, List.length_cons, List.length_nil, Nat.reduceAdd, Nat.reduceSub, Array.replicate_succ, Array.replicate_zero, List.push_toArray, List.append_toArray, List.nil_append, List.cons_append]
 go_upto_region 2 with fail
 rw [← hW1]
 clear hW1
 go_wp2_with (first
  | (go_at_call 50; refine (HA.out _).mono ?_; rintro e W2 ⟨bs, br, bt, rfl, HX⟩; clear HA)
  | fail)
 obtain ⟨x1, x2, x3, x4, x5⟩ := HX.out
 obtain ⟨y1, y2⟩ := HB1.out
 have hW2 : Below w.heap.size w W2 := below_step y1.old x1
 have hbl : w.heap.size + 1 < W2.heap.size := by have := x1.size; omega
 have hI0 : RgJ w (w.heap.size + 1) rd t ([] : List (Inl l)) W2 := ⟨_, _, y1.on x1, kpR_below hW2⟩
 have hseq := rows1_ (ob := w.heap.size + 1) (D := W2.heap.size + 2) HD.out.1 HD.out.2.1 HD.out.2.2 r t hW2 x2 ⟨by omega, by omega, by omega, by omega⟩
 clear x1 x2 x3 x4 x5 y1 y2 HX HB1 hW2 c0 c1 c2 c3 c4 c5
 rw [← wpIn_wide (n := 9)]
 apply range_over (encs := encR (l := l) rd t) (Kp := KpR (w.heap.size + 1)) (S := fun ys => ys.map (·.1) = (selR r l).filter (hvI rd t)) (Sp := fun _ => True) (N := l.length) (w0 := W2) (gf := 81) (lb := #[.pointer (some ⟨bs, 0, none⟩), .pointer (some ⟨br, 0, none⟩), .pointer (some ⟨bt, 0, none⟩)]) rfl (enters_of Tryz.func81 (by kernel_rfl) rfl) hseq kpR_t (fun V q o o' _ hq ho => kpR_put _ V q o' hq ho) (Below.refl _ _) (fun _ => rfl)
  (fun pre V => RgJ w (w.heap.size + 1) rd t pre V) (fun _ _ _ => False)
  (fun pre V V' row hi hg hr => by
    obtain ⟨v, Z, h1, h2⟩ := hi
    exact ⟨v, Z, h1.grown (by omega) hg hr, kpR_own (β := Unit) _ _ w () V V' row h2 hg hr⟩) (fun cc pre V V' row hi hg hr => hi) hI0
 case hassign =>
  intro ll x V KK hK
  unfold encR
  rw [fold2]
  simp only [List.setIfInBounds_toArray, List.set_cons_zero, List.set_cons_succ]
  gi_wp2
  exact hK
 case hbody =>
  rintro ll pre ⟨x, hx⟩ V ⟨v, Z, hi, hkp⟩ hlen
  have hrw := chain_rw (ob := w.heap.size + 1) HD.out.1 HD.out.2.1 t (fun k hk => by omega) hkp x hx
  have HP : Hid ((pre ++ [(⟨x, hx⟩ : Inl l)]).map (fun x => prI rd t x.1) = (pre.map fun x => prI rd t x.1) ++ [(x.1, (rowC (fV rd x.2) t).getD ⟨#[]⟩)]) := by show _ = _; rw [List.map_append]; rfl
  have HZ : Hid ((Z.map (·.1)).length ≤ 1000000) := by
   show _ ≤ _
   have := congrArg List.length hi.eq
   rw [List.length_map, List.length_map] at this
   rw [List.length_map, this]
   have := HS.out
   omega
  have HC : Hid (Calls Tryz.prog 51 #[.slice (rwV (asL (ctV rd x.2) t)).a (rwV (asL (ctV rd x.2) t)).n (rwV (asL (ctV rd x.2) t)).c] V.drew (Made V.drew ((rowC (fV rd x.2) t).getD ⟨#[]⟩))) := by
   have hr := hrw.on (below_drew V)
   obtain ⟨r1, r2, r3⟩ := hr.bytes
   exact clone_ r1 r2 r3 hr.le
  have c0 := hi.bx.cell
  have HI := Lib.hid hi
  have HKP := Lib.hid hkp
  clear hi hkp hlen hrw
  dsimp only
  generalize rwV (asL (ctV rd x.2) t) = rv at *
  generalize (rowC (fV rd x.2) t).getD ⟨#[]⟩ = s at *
  have hmx : Tryz.prog.follows .mixedOrders = true := by kernel_rfl
  gi_wp2
  refine region_in (A := fun _ => True) (e1 := 7) (B := fun V => V.cell? ⟨w.heap.size + 1, 0, none⟩ = some v) (e2 := 7) (C := fun _ => True) (by kernel_rfl) (by kernel_rfl) (by rintro ⟨_, _, h⟩; exact h) ⟨trivial, fun _ => c0, fun _ => trivial⟩ (fun hSt => ?_)
  refine take_ph 0 v [7] rfl (by kernel_rfl) (fun _ _ _ h => h) (Or.inl ⟨by rfl, ?_⟩) hSt (fun hSn => ?_)
  · rintro V ⟨_, hB, hC⟩; have e0 := hB (by decide); clear hB hC; go_simp
  clear hSt; rename Ph _ _ _ _ _ _ _ => hSt; simp only [Act.put, prw]
  refine take_ph 1 (.string x.1) [] rfl (by kernel_rfl) (fun _ _ _ h => h) (Or.inl ⟨by rfl, ?_⟩) hSt (fun hSn => ?_)
  · intro V _; go_simp
  clear hSt; rename Ph _ _ _ _ _ _ _ => hSt; simp only [Act.put, prw]
  refine take_ph 2 (.slice rv.a rv.n rv.c) [] rfl (by kernel_rfl) (fun _ _ _ h => h) (Or.inl ⟨by rfl, ?_⟩) hSt (fun hSn => ?_)
  · intro V _; go_simp
  clear hSt; rename Ph _ _ _ _ _ _ _ => hSt; simp only [Act.put, prw]
  refine ready_call_ph 3 rfl (by kernel_rfl) (fun KK hK => ?_)
  go_simp
  go_wp2_with (first | (go_at_call 51; refine HC.out.mono ?_; rintro e w1 ⟨q, rfl, hq1, hq2, hq3⟩))
  have hb1 := below_step (below_drew V) hq3
  have h0 := HI.out.on hb1
  refine hK.out _ _ ?_ (fun hSn => ?_)
  · exact ⟨trivial, fun _ => h0.bx.cell, fun _ => trivial⟩
  clear hK KK hSt; rename Ph _ _ _ _ _ _ _ => hSt
  have h1 := HI.out.on (below_step hb1 (below_alloc w1 (.cells #[.string x.1, .slice q.a q.n q.c] 102)))
  obtain ⟨U, hU⟩ : ∃ U, U = w1.alloc (.cells #[.string x.1, .slice q.a q.n q.c] 102) := ⟨_, rfl⟩
  have hrb : Hid (∀ (a : Act) (o : Oper) (z : Operand), o.op = .buildSlice 96 1 #[(0, z)] → a.eval z = .agg #[.string x.1, .slice q.a q.n q.c] → (execOp a.eval o).run Tryz.prog w1 = .ok (.value (.slice (some ⟨w1.heap.size, 0, none⟩) 1 1)) U) := fun a o z h1 h2 => by rw [hU]; exact run_buildVn w1 x.1 q.a q.n q.c a o z h1 h2
  obtain ⟨a2, n2, cp2, w2, hap, ho, hg⟩ := app_vni (x := (x.1, q)) h1.own (new_blk w1 _) HZ.out h1.old.size
  have HSt := Lib.hid (HI.out.step hb1 (y := (x.1, q)) hq1 (fun g hg' => Nat.le_trans HI.out.old.size (hq2 g hg')) ho hg)
  have k2 : Hid (U.cell? ⟨w.heap.size + 1, 0, none⟩ = some v) := by rw [hU]; exact h1.bx.cell
  rw [← hU] at hap
  clear hU h0 h1 ho hg hq1 hq2 hq3 hb1
  have HKF : Hid (KeepsFrom W2.heap.size V (w2.setCell ⟨w.heap.size + 1, 0, none⟩ (.slice a2 n2 cp2))) := ⟨by rw [size_set]; exact HSt.out.2.2.2.1, fun k o _ hko hc => HSt.out.2.2.1 k o hko hc⟩
  have HFin : Hid (RgJ w (w.heap.size + 1) rd t (pre ++ [(⟨x, hx⟩ : Inl l)]) (w2.setCell ⟨w.heap.size + 1, 0, none⟩ (.slice a2 n2 cp2))) := ⟨_, _, by rw [HP.out]; exact HSt.out.1, kpR_t HKP.out HSt.out.2.1⟩
  have c9 := HSt.out.2.2.2.2.cell
  have f9 := HSt.out.2.2.2.2.frozen
  refine take_ph 4 (.agg #[.string x.1, .slice q.a q.n q.c]) [] rfl (by kernel_rfl) (fun _ _ _ h => h) (Or.inl ⟨by rfl, ?_⟩) hSt (fun hSn => ?_)
  · intro V _; go_simp
  clear hSt; rename Ph _ _ _ _ _ _ _ => hSt; simp only [Act.put, prw]
  refine ready_ph 5 rfl (by kernel_rfl) rfl (.inl (hrb.out _ _ _ rfl rfl)) (⟨trivial, fun _ => k2.out, fun _ => trivial⟩) (fun hSn => ?_)
  clear hSt; rename Ph _ _ _ _ _ _ _ => hSt; simp only [Act.put, prw]
  refine ready_ph 6 rfl (by kernel_rfl) rfl (.inl (exec_append rfl rfl rfl hap)) (⟨trivial, fun _ => c9, fun _ => trivial⟩) (fun hSn => ?_)
  clear hSt; rename Ph _ _ _ _ _ _ _ => hSt; simp only [Act.put, prw]
  refine ready_store_ph 7 rfl (by kernel_rfl) rfl 96 _ _ rfl (.pointer (some ⟨w.heap.size + 1, 0, none⟩)) (.slice a2 n2 cp2) rfl rfl (store_sl c9 f9 (by kernel_rfl)) (⟨trivial, fun h => absurd (show true = false from h) (by decide), fun _ => trivial⟩) (fun hSn => ?_)
  clear hSt; rename Ph _ _ _ _ _ _ _ => hSt
  refine done_ph (by kernel_rfl) ?_ _
  clear hSt
  refine NoPanic.normal ?_
  clear hrb hap HC c9 f9 k2
  gi_wp2
  exact ⟨HKF.out, HSt.out.2.1, HFin.out⟩
 case hstop =>
  rintro D cc pre V hD hsp hix hK
  exact hix.elim
 case hdone =>
  rintro D1 ys V hD1 hys ⟨v, Z, hi, _⟩ hK1
  obtain ⟨a, c, rfl, _⟩ := row_shape hi.own
  have HI := Lib.hid (And.intro hi (And.intro hK1 hys))
  have c0 := hi.bx.cell
  clear hi hK1 hseq hys
  go_wp2_with fail
  obtain ⟨hi, hK, hys⟩ := HI.out
  have hp := hi.grown (B := w.heap.size) (Nat.le_refl _) (grownBy_putObj' V D1 (.deferred none)) (fun q e => by cases e; exact ⟨by omega, _, hK, rfl⟩)
  have eP : (ys.map fun x => prI rd t x.1) = ((selR r l).filter (hvI rd t)).map (prI rd t) := by rw [← hys, List.map_map]; rfl
  rw [eP] at hp
  have el : (Z.map (·.1)).length = Z.length := by simp
  rw [el] at hp
  refine ⟨by simp, .inl ⟨_, _, rfl, run_takeDeferred hK, ?_⟩⟩
  exact ⟨.slice a (Z.map (·.1)).length c, by simp [results, Tryz.results26, go_sem], a, c, Z, by rw [el], hp.own, hp.eq, fun z hz => (hp.rows z hz).1, hp.old⟩
end Go.Proofs.YtalmanfjiblhcaaGreat
namespace Go.Proofs.YtalmanfjiblhcaaGreat
open Go.RowKit Go.Sort Go.Shelf
attribute [local go_sem] Oper.semAt_some
theorem top_nil (w : World) : Calls Tryz.prog 96 #[.pointer none] w fun e w' => e = .returned (.pointer none) ∧ w' = w := by
 go_enter Tryz.func96, Tryz.ntmps96
 go_wp2_with fail
 go_ret
 exact ⟨rfl, rfl⟩
theorem tell_nil (w : World) : Calls Tryz.prog 147 #[.pointer none] w fun e w' => e = .returned (.tuple #[.string ⟨#[]⟩, .slice none 0 0, .bool false]) ∧ w' = w := by
 go_enter Tryz.func147, Tryz.ntmps147
 go_wp2_with fail
 go_ret3
 exact ⟨rfl, rfl⟩
set_option maxHeartbeats 1000000 in
theorem tfrom_nil (k : ByteArray) (b : Bool) (w : World) : Calls Tryz.prog 120 #[.pointer none, .string k, .bool b] w fun e w' => e = .returned (.tuple #[.string ⟨#[]⟩, .slice none 0 0, .bool false]) ∧ w' = w := by
 have H1 := Lib.hid (top_nil w)
 have H2 := Lib.hid (tell_nil w)
 go_enter Tryz.func120, Tryz.ntmps120
 go_wp2_with (first | (go_at_call 96; refine H1.out.mono ?_; rintro e w' ⟨rfl, rfl⟩) | fail)
 refine wp_loop_rounds 1 ?_
 rw [rounds_succ]
 go_wp2_with (first | (go_at_call 147; refine H2.out.mono ?_; rintro e w' ⟨rfl, rfl⟩) | fail)
 go_ret3
 exact ⟨rfl, rfl⟩
theorem tfirst_nil (w : World) : Calls Tryz.prog 146 #[.pointer none] w fun e w' => e = .returned (.tuple #[.string ⟨#[]⟩, .slice none 0 0, .bool false]) ∧ w' = w := by
 have H1 := Lib.hid (tfrom_nil ⟨#[]⟩ false w)
 go_enter Tryz.func146, Tryz.ntmps146
 go_wp2_with (first | (go_at_call 120; refine H1.out.mono ?_; rintro e w' ⟨rfl, rfl⟩) | fail)
 go_ret3
 exact ⟨rfl, rfl⟩
set_option maxHeartbeats 1000000 in
theorem least_nil (r : Rg) (w : World) : Calls Tryz.prog 118 #[.pointer none, rgV r] w fun e w' => e = .returned (.tuple #[.string ⟨#[]⟩, .slice none 0 0, .bool false]) ∧ Below w.heap.size w w' := by
 obtain ⟨f, t, hf, ho, pf, po⟩ := r
 have HB0 := Lib.hid (below_alloc w (.cells #[.string f, .string t, .bool hf, .bool ho, .bool pf, .bool po] 46))
 unfold rgV
 dsimp only
 cases hf with
 | false =>
   go_enter Tryz.func118, Tryz.ntmps118
   go_wp2_with (first | (go_at_call 146; refine (tfirst_nil _).mono ?_; rintro e w' ⟨rfl, rfl⟩) | fail)
   go_ret3
   exact ⟨rfl, HB0.out⟩
 | true =>
   go_enter Tryz.func118, Tryz.ntmps118
   go_wp2_with (first | (go_at_call 120; refine (tfrom_nil _ _ _).mono ?_; rintro e w' ⟨rfl, rfl⟩) | fail)
   go_ret3
   exact ⟨rfl, HB0.out⟩
theorem kept_nil (w : World) : Calls Tryz.prog 60 #[.pointer none] w fun e w' => e = .returned (.pointer none) ∧ w' = w := by
 go_enter Tryz.func60, Tryz.ntmps60
 go_wp2_with fail
 go_ret
 exact ⟨rfl, rfl⟩
def AllN (r : Rg) (W : World) (e : Ending) (w' : World) : Prop := ∃ bt br, e = .returned (.func (.func 117) #[] #[.pointer (some ⟨bt, 0, none⟩), .pointer (some ⟨br, 0, none⟩)]) ∧
 Hid (Below W.heap.size W w' ∧ w'.heap[bt]? = some (.cells #[.pointer none] 156 (0, 0)) ∧ w'.heap[br]? = some (.cells #[.string r.f, .string r.t, .bool r.hf, .bool r.ht, .bool r.pf, .bool r.pt] 46 (0, 0)) ∧ W.heap.size ≤ bt ∧ W.heap.size ≤ br)
set_option maxHeartbeats 1000000 in
theorem allN_ (r : Rg) (w : World) : Calls Tryz.prog 82 #[.pointer none, rgV r] w (AllN r w) := by
 obtain ⟨W1, hW1⟩ : ∃ W1, W1 = (w.alloc (.cells #[.pointer none] 156)).alloc (.cells #[.string r.f, .string r.t, .bool r.hf, .bool r.ht, .bool r.pf, .bool r.pt] 46) := ⟨_, rfl⟩
 obtain ⟨b0, b1, b2⟩ := two_box w (.cells #[.pointer none] 156) (.cells #[.string r.f, .string r.t, .bool r.hf, .bool r.ht, .bool r.pf, .bool r.pt] 46)
 rw [← hW1] at b0 b1 b2
 have HB := Lib.hid (And.intro b0 (And.intro b1 b2))
 clear b0 b1 b2
 unfold rgV
 go_enter Tryz.func82, Tryz.ntmps82
 go_wp2_with fail
 go_ret
 rw [← hW1]
 exact ⟨_, _, rfl, HB.out.1, HB.out.2.1, HB.out.2.2, Nat.le_refl _, Nat.le_succ _⟩
def encE (x : Empty) : Array Value := x.elim
set_option maxRecDepth 100000 in
set_option maxHeartbeats 2000000 in
theorem all1_nil {w : World} {bt br : Nat} {r : Rg} (hbt : w.heap[bt]? = some (.cells #[.pointer none] 156 (0, 0))) (hbr : w.heap[br]? = some (.cells #[.string r.f, .string r.t, .bool r.hf, .bool r.ht, .bool r.pf, .bool r.pt] 46 (0, 0))) :
 SeqStopsK Fence.wide 8 Tryz.prog 117 #[.pointer (some ⟨bt, 0, none⟩), .pointer (some ⟨br, 0, none⟩)] encE (fun _ _ => True) (fun _ => True) (fun _ => True) 0 w := fun ly J Jx W hW hJ _ _ h0 => by
 have hbt := blkKeep hW hbt
 have hbr := blkKeep hW hbr
 have c0 := cell_of (o := 0) hbt rfl
 have c1 := cell_of (o := 0) hbr rfl
 have c2 := cell_of (o := 1) hbr rfl
 have c3 := cell_of (o := 2) hbr rfl
 have c4 := cell_of (o := 3) hbr rfl
 have c5 := cell_of (o := 4) hbr rfl
 have c6 := cell_of (o := 5) hbr rfl
 have HL := Lib.hid (least_nil r W)
 have HJ := Lib.hid (And.intro hJ h0)
 clear hJ h0 hW hbt hbr
 unfold rgV at *
 refine callsIn_of_wp Tryz.func117 rfl (wide_fn _) ?_ wide_round
 simp only [Tryz.ntmps117, List.size_toArray, List.length_cons, List.length_nil, Nat.reduceAdd, Nat.reduceSub, Array.replicate_succ, Array.replicate_zero, List.push_toArray, List.append_toArray, List.nil_append, List.cons_append]
 gi_wp2
 refine ⟨wide_fn _, (callsIn_wide.2 HL.out).mono ?_⟩
 rintro e W1 ⟨rfl, hb1⟩
 have HJ1 := Lib.hid (abides_below HJ.out.1 HJ.out.2 hb1)
 clear hb1 HL HJ c0 c1 c2 c3 c4 c5 c6
 gi_wp2
 gi_loopg [6] 0 (fun kx v3 wr => v3 = .bool false ∧ Hid (J [] wr))
 case atStart => exact ⟨rfl, HJ1⟩
 case round =>
  obtain ⟨rfl, HJ2⟩ := hrel
  gi_wp2
  refine ⟨wide_fn _, ?_⟩
  gi_wp2
  refine ⟨fun f _ => wide_fn f, ?_⟩
  gi_wp2
  go_end0
  exact ⟨⟨_, rfl⟩, .inl ⟨_, trivial, HJ2.out⟩⟩
structure RowsBN (w : World) (bs br bt : Nat) (r : Rg) (t : Int) : Prop where
 b1 : w.heap[bs]? = some (.cells #[.pointer none] 97 (0, 0))
 b2 : w.heap[br]? = some (.cells #[.string r.f, .string r.t, .bool r.hf, .bool r.ht, .bool r.pf, .bool r.pt] 46 (0, 0))
 b3 : w.heap[bt]? = some (.cells #[.int .i64 t] 3 (0, 0))
theorem RowsBN.on {w w' : World} {bs br bt : Nat} {r : Rg} {t : Int} (h : RowsBN w bs br bt r t) (hb : Below w.heap.size w w') : RowsBN w' bs br bt r t :=
 ⟨blkKeep hb h.b1, blkKeep hb h.b2, blkKeep hb h.b3⟩
def RowsToN (r : Rg) (t : Int) (W : World) (e : Ending) (w' : World) : Prop := ∃ bs br bt, e = .returned (.func (.func 81) #[] #[.pointer (some ⟨bs, 0, none⟩), .pointer (some ⟨br, 0, none⟩), .pointer (some ⟨bt, 0, none⟩)]) ∧
 Hid (Below W.heap.size W w' ∧ RowsBN w' bs br bt r t ∧ W.heap.size ≤ bs ∧ W.heap.size ≤ br ∧ W.heap.size ≤ bt)
set_option maxRecDepth 100000 in
set_option maxHeartbeats 1000000 in
theorem rowsN_ (r : Rg) (t : Int) (w : World) : Calls Tryz.prog 50 #[.pointer none, rgV r, .int .i64 t] w (RowsToN r t w) := by
 obtain ⟨W1, hW1⟩ : ∃ W1, W1 = ((w.alloc (.cells #[.pointer none] 97)).alloc (.cells #[.string r.f, .string r.t, .bool r.hf, .bool r.ht, .bool r.pf, .bool r.pt] 46)).alloc (.cells #[.int .i64 t] 3) := ⟨_, rfl⟩
 have HB : Hid (Below w.heap.size w W1 ∧ RowsBN W1 w.heap.size (w.heap.size + 1) (w.heap.size + 1 + 1) r t) := by
  obtain ⟨b0, b1, b2⟩ := two_box w (.cells #[.pointer none] 97) (.cells #[.string r.f, .string r.t, .bool r.hf, .bool r.ht, .bool r.pf, .bool r.pt] 46)
  have b3 := below_alloc ((w.alloc (.cells #[.pointer none] 97)).alloc (.cells #[.string r.f, .string r.t, .bool r.hf, .bool r.ht, .bool r.pf, .bool r.pt] 46)) (.cells #[.int .i64 t] 3)
  have b4 := new_blk ((w.alloc (.cells #[.pointer none] 97)).alloc (.cells #[.string r.f, .string r.t, .bool r.hf, .bool r.ht, .bool r.pf, .bool r.pt] 46)) (.cells #[.int .i64 t] 3)
  rw [hW1]
  exact ⟨below_step b0 b3, blkKeep b3 b1, blkKeep b3 b2, by simp only [World.size_alloc] at b4; exact b4⟩
 unfold rgV
 go_enter Tryz.func50, Tryz.ntmps50
 go_wp2_with fail
 go_ret
 rw [← hW1]
 exact ⟨_, _, _, rfl, HB.out.1, HB.out.2, Nat.le_refl _, by omega, by omega⟩
set_option maxRecDepth 100000 in
set_option maxHeartbeats 4000000 in
theorem rows1_nil {w0 w : World} (r : Rg) (t : Int) {ob D bs br bt : Nat} (_h0 : Below w0.heap.size w0 w) (hb : RowsBN w bs br bt r t) :
 SeqN Tryz.prog 81 #[.pointer (some ⟨bs, 0, none⟩), .pointer (some ⟨br, 0, none⟩), .pointer (some ⟨bt, 0, none⟩)] encE (KpR ob) (fun _ => True) (fun _ => True) 0 D w := by
 intro ly J Jx W1 hW1 hD hJ hJx hY hj0
 have hb1 := hb.on hW1
 obtain ⟨W2, hW2⟩ : ∃ W2, W2 = W1.alloc (.cells #[.func (.yield ly) #[] #[]] 181) := ⟨_, rfl⟩
 have b2 : Below W1.heap.size W1 W2 := by rw [hW2]; exact below_alloc _ _
 have hb2 := hb1.on b2
 have HCells : Hid (∀ V, Below W2.heap.size W2 V → ((V.cell? ⟨bs, 0, none⟩ = some (.pointer none) ∧ V.cell? ⟨br, 0, none⟩ = some (.string r.f) ∧ V.cell? ⟨br, 1, none⟩ = some (.string r.t) ∧ V.cell? ⟨br, 2, none⟩ = some (.bool r.hf) ∧ V.cell? ⟨br, 3, none⟩ = some (.bool r.ht) ∧ V.cell? ⟨br, 4, none⟩ = some (.bool r.pf) ∧ V.cell? ⟨br, 5, none⟩ = some (.bool r.pt)) ∧ Below W2.heap.size W2 V)) := fun V hV => by
  have h := hb2.on hV
  exact ⟨⟨cell_of h.b1 rfl, cell_of h.b2 rfl, cell_of h.b2 rfl, cell_of h.b2 rfl, cell_of h.b2 rfl, cell_of h.b2 rfl, cell_of h.b2 rfl⟩, hV⟩
 have HA : Hid (∀ V, Calls Tryz.prog 82 #[.pointer none, rgV r] V (AllN r V)) := fun V => allN_ r V
 have HJ := Lib.hid (And.intro hJ hJx)
 have HJ0 : Hid (J [] W1) := hj0
 have HB2 := Lib.hid b2
 have HDz := Lib.hid hD
 clear _h0 hb hW1 hJ hJx hY hj0 hb1 b2 hb2 hD
 unfold rgV at *
 refine callsIn_wide.2 (callsIn_wide.1 (callsIn_of_wp_marks (n := 9) Tryz.func81 rfl (wide_fn _) (wpIn_wide.2 ?_) wide_round))
 simp only [Tryz.ntmps81, List.size_toArray, List.length_cons, List.length_nil, Nat.reduceAdd, Nat.reduceSub, Array.replicate_succ, Array.replicate_zero, List.push_toArray, List.append_toArray, List.nil_append, List.cons_append]
 go_upto_region 1 with fail
 rw [← hW2]
 clear hW2
 refine wp_region_noPanic ?_
 go_region_held (fun V => (V.cell? ⟨bs, 0, none⟩ = some (.pointer none) ∧ V.cell? ⟨br, 0, none⟩ = some (.string r.f) ∧ V.cell? ⟨br, 1, none⟩ = some (.string r.t) ∧ V.cell? ⟨br, 2, none⟩ = some (.bool r.hf) ∧ V.cell? ⟨br, 3, none⟩ = some (.bool r.ht) ∧ V.cell? ⟨br, 4, none⟩ = some (.bool r.pf) ∧ V.cell? ⟨br, 5, none⟩ = some (.bool r.pt)) ∧ Below W2.heap.size W2 V)
  (first | (exact HCells.out _ (below_drew _)) | (exact HCells.out _ (below_step (by assumption : (_ ∧ _) ∧ Below W2.heap.size W2 _).2 (by assumption))) | assumption)
  (first
    | (go_at_call 60; refine (kept_nil _).mono ?_; rintro e w1 ⟨rfl, rfl⟩)
    | (go_at_call 82; refine (HA.out _).mono ?_; rintro e W3 ⟨ct, cr, rfl, HX⟩; have hb := HX.out.1; clear HA)
    | fail)
 refine NoPanic.normal ?_
 go_wp2_with fail
 have hW23 := (by assumption : (_ ∧ _) ∧ Below W2.heap.size W2 W3).2
 obtain ⟨x1, x2, x3, x4, x5⟩ := HX.out
 have hseq := all1_nil x2 x3
 have h13 := below_step HB2.out hW23
 have hI0 : J [] W3 := own_below HJ.out.1 HJ0.out h13
 have HS : Hid (W1.heap.size ≤ W3.heap.size) := h13.size
 clear x1 x2 x3 x4 x5 HX HB2 hW23 h13 HJ0 HCells
 rw [← wpIn_wide (n := 9)]
 apply wpIn_rangeFunc_ownG (encs := encE) (Kp := fun _ _ => True) (S := fun _ => True) (Sp := fun _ => True) (N := 0) (w0 := W3) wide_round (by omega) (gf := 117) (lb := #[.pointer (some ⟨ct, 0, none⟩), .pointer (some ⟨cr, 0, none⟩)]) rfl (wide_fn _) (enters_of Tryz.func117 (by kernel_rfl) rfl) hseq (fun _ _ => trivial) (fun _ _ _ _ _ _ _ _ => trivial) (Below.refl _ _) (fun x => x.elim)
  (fun _ V => J [] V) (fun _ _ _ => False)
  (fun _ V V' row hi hg hr => (own_mono HJ.out.1 HS.out) _ V V' row hi hg hr) (fun _ _ _ _ _ hi _ _ => hi) hI0
 case a₁ => exact fun x => x.elim
 case hassign => exact fun _ x => x.elim
 case hbody => exact fun _ _ x => x.elim
 case hstop => exact fun _ _ _ _ _ _ h => h.elim
 case hdone =>
  rintro D1 ys V hD1 _ hj hK1
  have HI := Lib.hid (And.intro hj hK1)
  clear hj hK1 hseq
  go_wp2_with fail
  obtain ⟨hj, hK⟩ := HI.out
  refine ⟨by simp, .inl ⟨_, _, rfl, run_takeDeferred hK, ?_⟩⟩
  exact ⟨.tuple #[], by simp [results, Tryz.results81, go_sem], ⟨_, rfl⟩, .inl ⟨_, trivial, HJ.out.1.putObj _ hj (by have := HS.out; omega) hK rfl⟩⟩
set_option maxRecDepth 100000 in
set_option maxHeartbeats 4000000 in
theorem vrange_nil {w : World} (r : Rg) (t : Int) :
 Calls Tryz.prog 26 #[.pointer none, rgV r, .int .i64 t] w (RangeTo w []) := by
 have HA : Hid (∀ V, Calls Tryz.prog 50 #[.pointer none, rgV r, .int .i64 t] V (RowsToN r t V)) := fun V => rowsN_ r t V
 obtain ⟨W1, hW1⟩ : ∃ W1, W1 = (w.alloc (.cells #[.string r.f, .string r.t, .bool r.hf, .bool r.ht, .bool r.pf, .bool r.pt] 46)).alloc (.cells #[.slice none 0 0] 96) := ⟨_, rfl⟩
 obtain ⟨b0, b1, b2⟩ := two_box w (.cells #[.string r.f, .string r.t, .bool r.hf, .bool r.ht, .bool r.pf, .bool r.pt] 46) (.cells #[.slice none 0 0] 96)
 rw [← hW1] at b0 b1 b2
 have HB1 : Hid (RgI w (w.heap.size + 1) [] (.slice none 0 0) [] W1 ∧ W1.heap.size = w.heap.size + 1 + 1) := ⟨⟨b2, World.ownsRow_nil _ _ _ _, rfl, fun z hz => (by cases hz), b0, Nat.le_succ _⟩, by rw [hW1]; simp [go_sem]⟩
 have c0 := cell_of (o := 0) b1 rfl
 have c1 := cell_of (o := 1) b1 rfl
 have c2 := cell_of (o := 2) b1 rfl
 have c3 := cell_of (o := 3) b1 rfl
 have c4 := cell_of (o := 4) b1 rfl
 have c5 := cell_of (o := 5) b1 rfl
 clear b0 b1 b2
 unfold rgV at *
 refine callsIn_wide.1 (callsIn_of_wp_marks (n := 9) Tryz.func26 rfl (wide_fn _) (wpIn_wide.2 ?_) wide_round)
 simp only [Tryz.ntmps26, List.size_toArray, List.length_cons, List.length_nil, Nat.reduceAdd, Nat.reduceSub, Array.replicate_succ, Array.replicate_zero, List.push_toArray, List.append_toArray, List.nil_append, List.cons_append]
 go_upto_region 2 with fail
 rw [← hW1]
 clear hW1
 go_wp2_with (first
  | (go_at_call 50; refine (HA.out _).mono ?_; rintro e W2 ⟨bs, br, bt, rfl, HX⟩; clear HA)
  | fail)
 obtain ⟨x1, x2, x3, x4, x5⟩ := HX.out
 obtain ⟨y1, y2⟩ := HB1.out
 have hW2 : Below w.heap.size w W2 := below_step y1.old x1
 have hbl : w.heap.size + 1 < W2.heap.size := by have := x1.size; omega
 have hI0 : RgI w (w.heap.size + 1) [] (.slice none 0 0) [] W2 := y1.on x1
 have hseq := rows1_nil (ob := w.heap.size + 1) (D := W2.heap.size + 2) r t hW2 x2
 clear x1 x2 x3 x4 x5 y1 y2 HX HB1 hW2 c0 c1 c2 c3 c4 c5
 rw [← wpIn_wide (n := 9)]
 apply range_over (encs := encE) (Kp := KpR (w.heap.size + 1)) (S := fun _ => True) (Sp := fun _ => True) (N := 0) (w0 := W2) (gf := 81) (lb := #[.pointer (some ⟨bs, 0, none⟩), .pointer (some ⟨br, 0, none⟩), .pointer (some ⟨bt, 0, none⟩)]) rfl (enters_of Tryz.func81 (by kernel_rfl) rfl) hseq (fun h k => kpR_t h k) (fun V q o o' _ hq ho => kpR_put _ V q o' hq ho) (Below.refl _ _) (fun x => x.elim)
  (fun _ V => RgI w (w.heap.size + 1) [] (.slice none 0 0) [] V) (fun _ _ _ => False)
  (fun _ V V' row hi hg hr => hi.grown (by omega) hg hr) (fun _ _ _ _ _ hi _ _ => hi) hI0
 case a₁ => exact fun x => x.elim
 case hassign => exact fun _ x => x.elim
 case hbody => exact fun _ _ x => x.elim
 case hstop => exact fun _ _ _ _ _ _ h => h.elim
 case hdone =>
  rintro D1 ys V hD1 _ hi hK1
  have HI := Lib.hid (And.intro hi hK1)
  have c0 := hi.bx.cell
  clear hi hK1 hseq
  go_wp2_with fail
  obtain ⟨hi, hK⟩ := HI.out
  have hp := hi.grown (B := w.heap.size) (Nat.le_refl _) (grownBy_putObj' V D1 (.deferred none)) (fun q e => by cases e; exact ⟨by omega, _, hK, rfl⟩)
  refine ⟨by simp, .inl ⟨_, _, rfl, run_takeDeferred hK, ?_⟩⟩
  exact ⟨.slice none 0 0, by simp [results, Tryz.results26, go_sem], none, 0, [], rfl, hp.own, rfl, fun z hz => (by cases hz), hp.old⟩
end Go.Proofs.YtalmanfjiblhcaaGreat
