/- Put. -/
import Derived.Test.YtagamkahfiackaaGreatDoorVnPut0
namespace Go.Proofs.YtagamkahfiackaaGreatDoor
open Go.RowKit Go.Sort

def erA : Value := .iface 91 (.int .i64 1)
set_option maxRecDepth 100000 in
theorem vput_low {w : World} {ps : Nat} (k : ByteArray) (t : Int) (ht : t < 1) (a : Option Addr) (n c : Nat) (gn : Bool) :
    Calls Tryz.prog 19 #[.pointer (some ⟨ps, 0, none⟩), .string k, .int .i64 t, .slice a n c, .bool gn] w fun e w' => e = .returned erA ∧ w' = w := by
  unfold erA
  go_enter Tryz.func19, Tryz.ntmps19
  go_wp2_with fail
  go_ret
  exact ⟨rfl, rfl⟩
/-- What Get and last tell a Put. -/
theorem vput_ask {W w : World} {ps p : Nat} {M : Nat → Option Nd} {F : Nat → Prop} {l : List It} {rd : Nat → List MV} (hd : VnD W w ps p M F l rd) (hok : OkM (mdl rd l)) (hm : nVer (mdl rd l) ≤ 900000) (k : ByteArray) :
    ∃ (v : Vl) (L : List MV) (b : Bool), v = (get k l).getD vz ∧ ChAt w W.heap.size v L ∧ pvs L = chM k (mdl rd l) ∧ L.length ≤ 900000 ∧
      Calls Tryz.prog 23 #[.pointer (some ⟨p, 0, none⟩), .string k] w (fun e w' => e = .returned (.tuple #[.slice v.a v.n v.c, .bool b]) ∧ Below w.heap.size w w') ∧
      (∀ V, Below w.heap.size w V → Calls Tryz.prog 30 #[.slice v.a v.n v.c] V fun e w' => e = .returned (.int .i64 (lastC (chM k (mdl rd l)))) ∧ w' = V) := by
  obtain ⟨L, hL, hpv, _⟩ := hd.chain k
  have hlen := ch_le hok.srt k
  rw [← hpv, pvs_len] at hlen
  have hget := tget_ hd.wk.st hd.tr k
  obtain ⟨v, hv⟩ : ∃ v, v = (get k l).getD vz := ⟨_, rfl⟩
  obtain ⟨b, hb⟩ : ∃ b, b = (get k l).isSome := ⟨_, rfl⟩
  rw [← hv, ← hb] at hget
  rw [← hv] at hL
  refine ⟨v, L, b, hv, hL, hpv, Nat.le_trans hlen hm, hget, fun V hV => ?_⟩
  obtain ⟨s1, s2, _⟩ := hL.row.shape
  have := last_ s1 (s2.on hV) (by omega)
  rw [hpv] at this
  exact this
set_option maxRecDepth 100000 in
set_option maxHeartbeats 1000000 in
theorem vput_late {W w : World} {ps : Nat} {m : List Ct} (h : VnAt W w ps m) (hm : nVer m ≤ 900000) (k : ByteArray) (t : Int) (h1 : 1 ≤ t) (hl : t < lastC (chM k m)) (a : Option Addr) (n c : Nat) (gn : Bool) :
    Calls Tryz.prog 19 #[.pointer (some ⟨ps, 0, none⟩), .string k, .int .i64 t, .slice a n c, .bool gn] w fun e w' => e = .returned erA ∧ Below w.heap.size w w' := by
  obtain ⟨p, M, F, l, rd, hd, rfl⟩ := h.ex
  obtain ⟨v, L, b, z1, z2, z3, z4, hg, hla⟩ := vput_ask hd h.ok hm k
  clear z1 z2 z3 z4
  have HG := Lib.hid hg
  have HL := Lib.hid hla
  have c0 := cell_of (o := 0) hd.bs rfl
  generalize lastC (chM k (mdl rd l)) = lc at *
  have hlt : ¬ t < 1 := by omega
  clear h hd hg hla hm
  unfold erA
  go_enter Tryz.func19, Tryz.ntmps19
  go_wp2_with (first
    | (go_at_call 23; refine HG.out.mono ?_; rintro e w1 ⟨rfl, hb1⟩; have HB1 := Lib.hid hb1; clear hb1)
    | (go_at_call 30; refine (HL.out _ HB1.out).mono ?_; rintro e w2 ⟨rfl, rfl⟩)
    | fail)
  go_ret
  exact ⟨rfl, HB1.out⟩
/-- with, and the tree's Put behind it. -/
def PutNext (W X : World) (ps p : Nat) (k : ByteArray) (m : List Ct) (e : Ending) (V1 : World) : Prop :=
  ∃ g nn cap, e = .returned (.slice (some ⟨g, 0, none⟩) nn cap) ∧ V1.cell? ⟨ps, 0, none⟩ = some (.pointer (some ⟨p, 0, none⟩)) ∧
    Hid (Calls Tryz.prog 35 #[.pointer (some ⟨p, 0, none⟩), .string k, .slice (some ⟨g, 0, none⟩) nn cap] V1 fun e V2 => (∃ t1 t2, e = .returned (.tuple #[t1, t2])) ∧ Hid (VnAt W V2 ps m ∧ AlienV X V2))
theorem put_next {W X : World} {ps p : Nat} {M : Nat → Option Nd} {F : Nat → Prop} {l : List It} {rd : Nat → List MV} (hd : VnD W X ps p M F l rd) (hok : OkM (mdl rd l)) (hm : nVer (mdl rd l) ≤ 900000) (k : ByteArray) {v : Vl} (hv : v = (get k l).getD vz) {L : List MV} (hL : ChAt X W.heap.size v L) (hpv : pvs L = chM k (mdl rd l)) (x : MV) (h1 : 1 ≤ x.v.cm) (hl : lastC (chM k (mdl rd l)) ≤ x.v.cm) (hx : RowAt X x.r x.v.tx ∧ (∀ b, x.r.a = some ⟨b, 0, none⟩ → W.heap.size ≤ b)) :
    Calls Tryz.prog 37 #[.slice v.a v.n v.c, .agg #[.int .i64 x.v.cm, .slice x.r.a x.r.n x.r.c, .bool x.v.gn]] X (PutNext W X ps p k (putM k x.v (mdl rd l))) := by
  have hlen := ch_le hok.srt k
  rw [← hpv, pvs_len] at hlen
  have hml := hok.len
  rw [mdl_len] at hml
  refine (with_ x hL.row (by omega) h1).mono ?_
  rintro e V1 ⟨g, cap, rfl, hrow, hg, hat⟩
  have hN : ∀ y ∈ withM L x, RowAt X y.r y.v.tx ∧ (∀ b, y.r.a = some ⟨b, 0, none⟩ → W.heap.size ≤ b) := fun y hy => by
    rcases withM_mem hy with rfl | hy
    · exact hx
    · exact hL.rows y hy
  have hH := chain_turn hd k hv hL hrow hg hat hN
  rw [show ins k (pvs (withM L x)) (mdl rd l) = putM k x.v (mdl rd l) by unfold putM; rw [withM_pvs, hpv]] at hH
  refine ⟨g, _, cap, rfl, cell_of hH.bs rfl, ?_⟩
  refine (tput_ hH.wk.st hH.tr (by omega) k ⟨some ⟨g, 0, none⟩, (withM L x).length, cap⟩).mono fun e V2 ⟨e1, M', F', hk, ht⟩ => ⟨⟨_, _, e1⟩, hH.put (hok.put h1 hl) hk ht⟩
set_option maxRecDepth 100000 in
set_option maxHeartbeats 1000000 in
theorem vput_gone {W w : World} {ps : Nat} {m : List Ct} (h : VnAt W w ps m) (hm : nVer m ≤ 900000) (k : ByteArray) (t : Int) (h1 : 1 ≤ t) (hl : lastC (chM k m) ≤ t) (a : Option Addr) (n c : Nat) :
    Calls Tryz.prog 19 #[.pointer (some ⟨ps, 0, none⟩), .string k, .int .i64 t, .slice a n c, .bool true] w fun e w' => e = .returned .nilIface ∧ Hid (VnAt W w' ps (putM k ⟨t, ⟨#[]⟩, true⟩ m) ∧ AlienV w w') := by
  obtain ⟨p, M, F, l, rd, hd, rfl⟩ := h.ex
  obtain ⟨v, L, b, hv, hL, hpv, _, hg, hla⟩ := vput_ask hd h.ok hm k
  have HG := Lib.hid hg
  have HL := Lib.hid hla
  have c0 := cell_of (o := 0) hd.bs rfl
  have HX : Hid (∀ w1, Below w.heap.size w w1 → ∀ X, X = (w1.alloc (.cells #[.int .i64 t, .slice none 0 0, .bool true] 90)) → (∀ V, Below X.heap.size X V → V.cell? ⟨w1.heap.size, 0, none⟩ = some (.int .i64 t) ∧ V.cell? ⟨w1.heap.size, 1, none⟩ = some (.slice none 0 0) ∧ V.cell? ⟨w1.heap.size, 2, none⟩ = some (.bool true)) ∧ X.cell? ⟨ps, 0, none⟩ = some (.pointer (some ⟨p, 0, none⟩)) ∧
      Calls Tryz.prog 37 #[.slice v.a v.n v.c, .agg #[.int .i64 t, .slice none 0 0, .bool true]] X.drew (PutNext W X.drew ps p k (putM k ⟨t, ⟨#[]⟩, true⟩ (mdl rd l))) ∧ Below w.heap.size w X.drew) := fun w1 hb1 X hX => by
    have hB : Below w.heap.size w X := by rw [hX]; exact below_step hb1 (below_alloc _ _)
    have hn : X.heap[w1.heap.size]? = some (.cells #[.int .i64 t, .slice none 0 0, .bool true] 90 (0, 0)) := by rw [hX]; exact new_blk _ _
    have hBd := below_step hB (below_drew X)
    refine ⟨fun V hV => ?_, cell_of (hd.on hB).bs rfl, ?_, hBd⟩
    · have := (hV.block _ (blk_lt hn)).trans hn
      exact ⟨cell_of this rfl, cell_of this rfl, cell_of this rfl⟩
    · exact put_next (hd.on hBd) h.ok hm k hv ⟨row_on hL.row hBd, hL.lo, fun y hy => ⟨(hL.rows y hy).1.on hBd, (hL.rows y hy).2⟩⟩ hpv ⟨⟨t, ⟨#[]⟩, true⟩, vz⟩ h1 hl ⟨rowAt_nil _, fun b hb => by cases hb⟩
  have hlt : ¬ t < 1 := by omega
  have hlt2 : ¬ lastC (chM k (mdl rd l)) > t := by omega
  generalize putM k ⟨t, ⟨#[]⟩, true⟩ (mdl rd l) = m' at *
  generalize lastC (chM k (mdl rd l)) = lc at *
  clear h hd hg hla hm hv hL hpv hl
  go_enter Tryz.func19, Tryz.ntmps19
  go_wp2_with (first
    | (go_at_call 23; refine HG.out.mono ?_; rintro e w1 ⟨rfl, hb1⟩; have HB1 := Lib.hid hb1; clear hb1)
    | (go_at_call 30; refine (HL.out _ HB1.out).mono ?_; rintro e w2 ⟨rfl, rfl⟩)
    | fail)
  obtain ⟨X, hX⟩ : ∃ X, X = w2.alloc (.cells #[.int .i64 t, .slice none 0 0, .bool true] 90) := ⟨_, rfl⟩
  rw [← hX]
  obtain ⟨q1, q2, q3, q4⟩ := HX.out w2 HB1.out X hX
  have F1 := Lib.hid q1
  have HW := Lib.hid q3
  have HBd := Lib.hid q4
  clear hX HX HG HL HB1 q1 q3 q4 c0
  generalize w2.heap.size = B at *
  refine wp_region_noPanic ?_
  refine region_ph (A := fun _ => True) (e1 := 7) (B := fun V => Below X.heap.size X V) (e2 := 8) (C := fun V => V.cell? ⟨ps, 0, none⟩ = some (.pointer (some ⟨p, 0, none⟩))) (by kernel_rfl) ⟨trivial, fun _ => below_drew X, fun _ => q2⟩ (fun hSt => ?_)
  refine take_ph 0 (.pointer (some ⟨ps, 0, none⟩)) [] rfl (by kernel_rfl) (fun _ _ _ h => h) (Or.inl ⟨by rfl, ?_⟩) hSt (fun hSn => ?_)
  · intro V _; go_simp
  clear hSt; rename Ph _ _ _ _ _ _ _ => hSt
  simp only [Act.put, List.setIfInBounds_toArray, List.set_cons_zero, List.set_cons_succ]
  refine take_ph 1 (.pointer (some ⟨ps, 0, none⟩)) [] rfl (by kernel_rfl) (fun _ _ _ h => h) (Or.inl ⟨by rfl, ?_⟩) hSt (fun hSn => ?_)
  · intro V _; go_simp
  clear hSt; rename Ph _ _ _ _ _ _ _ => hSt
  simp only [Act.put, List.setIfInBounds_toArray, List.set_cons_zero, List.set_cons_succ]
  refine take_ph 2 (.pointer (some ⟨ps, 0, none⟩)) [] rfl (by kernel_rfl) (fun _ _ _ h => h) (Or.inl ⟨by rfl, ?_⟩) hSt (fun hSn => ?_)
  · intro V _; go_simp
  clear hSt; rename Ph _ _ _ _ _ _ _ => hSt
  simp only [Act.put, List.setIfInBounds_toArray, List.set_cons_zero, List.set_cons_succ]
  refine take_ph 3 (.pointer (some ⟨p, 0, none⟩)) [8] rfl (by kernel_rfl) (fun _ _ _ h => h) (Or.inl ⟨by rfl, ?_⟩) hSt (fun hSn => ?_)
  · rintro V ⟨_, hB, hC⟩; have e0 := hC (by decide); clear hB hC; go_simp
  clear hSt; rename Ph _ _ _ _ _ _ _ => hSt
  simp only [Act.put, List.setIfInBounds_toArray, List.set_cons_zero, List.set_cons_succ]
  refine take_ph 4 (.string k) [] rfl (by kernel_rfl) (fun _ _ _ h => h) (Or.inl ⟨by rfl, ?_⟩) hSt (fun hSn => ?_)
  · intro V _; go_simp
  clear hSt; rename Ph _ _ _ _ _ _ _ => hSt
  simp only [Act.put, List.setIfInBounds_toArray, List.set_cons_zero, List.set_cons_succ]
  refine take_ph 5 (.slice v.a v.n v.c) [] rfl (by kernel_rfl) (fun _ _ _ h => h) (Or.inl ⟨by rfl, ?_⟩) hSt (fun hSn => ?_)
  · intro V _; go_simp
  clear hSt; rename Ph _ _ _ _ _ _ _ => hSt
  simp only [Act.put, List.setIfInBounds_toArray, List.set_cons_zero, List.set_cons_succ]
  refine take_ph 6 (.agg #[.int .i64 t, .slice none 0 0, .bool true]) [7] rfl (by kernel_rfl) (fun _ _ _ h => h) (Or.inl ⟨by rfl, ?_⟩) hSt (fun hSn => ?_)
  · rintro V ⟨_, hB, hC⟩; have e0 := F1.out V (hB (by decide)); clear hB hC; go_simp
  clear hSt; rename Ph _ _ _ _ _ _ _ => hSt
  simp only [Act.put, List.setIfInBounds_toArray, List.set_cons_zero, List.set_cons_succ]
  refine ready_call_ph 7 rfl (by kernel_rfl) (fun KK hK => ?_)
  go_simp
  go_wp2_with (first | (go_at_call 37; refine HW.out.mono ?_; rintro e V1 ⟨g, nn, cap, rfl, d1, HP⟩))
  refine hK.out _ _ ?_ (fun hSn => ?_)
  · exact ⟨trivial, fun h => absurd (show true = false from h) (by decide), fun _ => d1⟩
  clear hK KK hSt; rename Ph _ _ _ _ _ _ _ => hSt
  refine ready_call_ph 8 rfl (by kernel_rfl) (fun KK hK => ?_)
  go_simp
  go_wp2_with (first | (go_at_call 35; refine HP.out.mono ?_; rintro e V2 ⟨⟨t1, t2, rfl⟩, HF⟩))
  refine hK.out _ _ ?_ (fun hSn => ?_)
  · exact ⟨trivial, fun h => absurd (show true = false from h) (by decide), fun h => absurd (show true = false from h) (by decide)⟩
  clear hK KK hSt; rename Ph _ _ _ _ _ _ _ => hSt
  refine done_ph (by kernel_rfl) ?_ _
  clear hSt
  refine NoPanic.normal ?_
  go_wp2_with fail
  go_ret
  exact ⟨rfl, HF.out.1, (AlienV.below HBd.out).trans HF.out.2⟩
set_option maxRecDepth 100000 in
set_option maxHeartbeats 1000000 in
theorem vput_row {W w : World} {ps : Nat} {m : List Ct} (h : VnAt W w ps m) (hm : nVer m ≤ 900000) (k : ByteArray) (t : Int) (h1 : 1 ≤ t) (hl : lastC (chM k m) ≤ t) {a : Option Addr} {n c : Nat} {s : ByteArray} (hn : n = (bsN s).length) (hb : BytesIn w a (bsN s)) (hz : a = none → c = 0) (hs : s.size ≤ 140737488355328) :
    Calls Tryz.prog 19 #[.pointer (some ⟨ps, 0, none⟩), .string k, .int .i64 t, .slice a n c, .bool false] w fun e w' => e = .returned .nilIface ∧ Hid (VnAt W w' ps (putM k ⟨t, s, false⟩ m) ∧ AlienV w w') := by
  have hWw := h.below.size
  obtain ⟨p, M, F, l, rd, hd, rfl⟩ := h.ex
  obtain ⟨v, L, b, hv, hL, hpv, _, hg, hla⟩ := vput_ask hd h.ok hm k
  have HG := Lib.hid hg
  have HL := Lib.hid hla
  have c0 := cell_of (o := 0) hd.bs rfl
  have HC : Hid (∀ w1, Below w.heap.size w w1 → Calls Tryz.prog 25 #[.slice a n c] (w1.alloc (.cells #[.int .i64 t, .slice none 0 0, .bool false] 90)) fun e w3 => ∃ (r : Vl) (X : World), e = .returned (.slice r.a r.n r.c) ∧ (Instr.storeAt 33 (.pointer (some ⟨w1.heap.size, 1, none⟩)) (.slice r.a r.n r.c)).run Tryz.prog w3 = .ok () X ∧
      Hid (∀ V, Below X.heap.size X V → V.cell? ⟨w1.heap.size, 0, none⟩ = some (.int .i64 t) ∧ V.cell? ⟨w1.heap.size, 1, none⟩ = some (.slice r.a r.n r.c) ∧ V.cell? ⟨w1.heap.size, 2, none⟩ = some (.bool false)) ∧ X.cell? ⟨ps, 0, none⟩ = some (.pointer (some ⟨p, 0, none⟩)) ∧
      Hid (Calls Tryz.prog 37 #[.slice v.a v.n v.c, .agg #[.int .i64 t, .slice r.a r.n r.c, .bool false]] X.drew (PutNext W X.drew ps p k (putM k ⟨t, s, false⟩ (mdl rd l)))) ∧ Hid (Below w.heap.size w X.drew)) := fun w1 hb1 => by
    have hba := below_alloc w1 (.cells #[.int .i64 t, .slice none 0 0, .bool false] 90)
    have hwa := below_step hb1 hba
    refine (clone_ hn (hb.on hwa) hz hs).mono ?_
    rintro e w3 ⟨r, rfl, hr, hrlo, hb3⟩
    have hbx : w3.heap[w1.heap.size]? = some (.cells #[.int .i64 t, .slice none 0 0, .bool false] 90 (0, 0)) := (hb3.block _ (blk_lt (new_blk w1 _))).trans (new_blk w1 _)
    have hw3 : Below w.heap.size w w3 := below_step hwa hb3
    have hX : Below w.heap.size w (w3.setCell ⟨w1.heap.size, 1, none⟩ (.slice r.a r.n r.c)) := hw3.setCell (p := ⟨w1.heap.size, 1, none⟩) hb1.size _
    have hbx2 : (w3.setCell ⟨w1.heap.size, 1, none⟩ (.slice r.a r.n r.c)).heap[w1.heap.size]? = some (.cells #[.int .i64 t, .slice r.a r.n r.c, .bool false] 90 (0, 0)) := by
      have := heap_set (o := 1) (.slice r.a r.n r.c) hbx
      simpa using this
    refine ⟨r, _, rfl, store_sl (cell_of hbx rfl) (frozen_of hbx) (by kernel_rfl), ?_⟩
    generalize hXX : w3.setCell ⟨w1.heap.size, 1, none⟩ (.slice r.a r.n r.c) = X at *
    have hXd := below_step hX (below_drew X)
    have hrX : RowAt X r s := hr.keep fun g hg => by
      obtain ⟨cur, hc⟩ := hr.blk hg
      rw [← hXX]
      exact heap_far _ (kind_ne hc hbx (by decide))
    refine ⟨fun V hV => ?_, cell_of (hd.on hX).bs rfl, ?_, hXd⟩
    · have := (hV.block _ (blk_lt hbx2)).trans hbx2
      exact ⟨cell_of this rfl, cell_of this rfl, cell_of this rfl⟩
    · exact put_next (hd.on hXd) h.ok hm k hv ⟨row_on hL.row hXd, hL.lo, fun y hy => ⟨(hL.rows y hy).1.on hXd, (hL.rows y hy).2⟩⟩ hpv ⟨⟨t, s, false⟩, r⟩ h1 hl ⟨hrX.on (below_drew X), fun b hb => by
        have := hrlo b hb
        have h2 := hwa.size
        omega⟩
  have hlt : ¬ t < 1 := by omega
  have hlt2 : ¬ lastC (chM k (mdl rd l)) > t := by omega
  generalize putM k ⟨t, s, false⟩ (mdl rd l) = m' at *
  generalize lastC (chM k (mdl rd l)) = lc at *
  clear h hd hg hla hm hv hL hpv hl hn hb hz hs hWw
  go_enter Tryz.func19, Tryz.ntmps19
  go_wp2_with (first
    | (go_at_call 23; refine HG.out.mono ?_; rintro e w1 ⟨rfl, hb1⟩; have HB1 := Lib.hid hb1; clear hb1)
    | (go_at_call 30; refine (HL.out _ HB1.out).mono ?_; rintro e w2 ⟨rfl, rfl⟩)
    | (go_at_call 25; refine (HC.out _ HB1.out).mono ?_; rintro e w3 ⟨r, X, rfl, hst, F1, q2, HW, HBd⟩)
    | (refine wpList_store_at rfl _ _ _ rfl _ _ rfl rfl hst ?_; clear hst)
    | fail)
  clear HC HG HL HB1 c0
  generalize w2.heap.size = B at *
  refine wp_region_noPanic ?_
  refine region_ph (A := fun _ => True) (e1 := 7) (B := fun V => Below X.heap.size X V) (e2 := 8) (C := fun V => V.cell? ⟨ps, 0, none⟩ = some (.pointer (some ⟨p, 0, none⟩))) (by kernel_rfl) ⟨trivial, fun _ => below_drew X, fun _ => q2⟩ (fun hSt => ?_)
  refine take_ph 0 (.pointer (some ⟨ps, 0, none⟩)) [] rfl (by kernel_rfl) (fun _ _ _ h => h) (Or.inl ⟨by rfl, ?_⟩) hSt (fun hSn => ?_)
  · intro V _; go_simp
  clear hSt; rename Ph _ _ _ _ _ _ _ => hSt
  simp only [Act.put, List.setIfInBounds_toArray, List.set_cons_zero, List.set_cons_succ]
  refine take_ph 1 (.pointer (some ⟨ps, 0, none⟩)) [] rfl (by kernel_rfl) (fun _ _ _ h => h) (Or.inl ⟨by rfl, ?_⟩) hSt (fun hSn => ?_)
  · intro V _; go_simp
  clear hSt; rename Ph _ _ _ _ _ _ _ => hSt
  simp only [Act.put, List.setIfInBounds_toArray, List.set_cons_zero, List.set_cons_succ]
  refine take_ph 2 (.pointer (some ⟨ps, 0, none⟩)) [] rfl (by kernel_rfl) (fun _ _ _ h => h) (Or.inl ⟨by rfl, ?_⟩) hSt (fun hSn => ?_)
  · intro V _; go_simp
  clear hSt; rename Ph _ _ _ _ _ _ _ => hSt
  simp only [Act.put, List.setIfInBounds_toArray, List.set_cons_zero, List.set_cons_succ]
  refine take_ph 3 (.pointer (some ⟨p, 0, none⟩)) [8] rfl (by kernel_rfl) (fun _ _ _ h => h) (Or.inl ⟨by rfl, ?_⟩) hSt (fun hSn => ?_)
  · rintro V ⟨_, hB, hC⟩; have e0 := hC (by decide); clear hB hC; go_simp
  clear hSt; rename Ph _ _ _ _ _ _ _ => hSt
  simp only [Act.put, List.setIfInBounds_toArray, List.set_cons_zero, List.set_cons_succ]
  refine take_ph 4 (.string k) [] rfl (by kernel_rfl) (fun _ _ _ h => h) (Or.inl ⟨by rfl, ?_⟩) hSt (fun hSn => ?_)
  · intro V _; go_simp
  clear hSt; rename Ph _ _ _ _ _ _ _ => hSt
  simp only [Act.put, List.setIfInBounds_toArray, List.set_cons_zero, List.set_cons_succ]
  refine take_ph 5 (.slice v.a v.n v.c) [] rfl (by kernel_rfl) (fun _ _ _ h => h) (Or.inl ⟨by rfl, ?_⟩) hSt (fun hSn => ?_)
  · intro V _; go_simp
  clear hSt; rename Ph _ _ _ _ _ _ _ => hSt
  simp only [Act.put, List.setIfInBounds_toArray, List.set_cons_zero, List.set_cons_succ]
  refine take_ph 6 (.agg #[.int .i64 t, .slice r.a r.n r.c, .bool false]) [7] rfl (by kernel_rfl) (fun _ _ _ h => h) (Or.inl ⟨by rfl, ?_⟩) hSt (fun hSn => ?_)
  · rintro V ⟨_, hB, hC⟩; have e0 := F1.out V (hB (by decide)); clear hB hC; go_simp
  clear hSt; rename Ph _ _ _ _ _ _ _ => hSt
  simp only [Act.put, List.setIfInBounds_toArray, List.set_cons_zero, List.set_cons_succ]
  refine ready_call_ph 7 rfl (by kernel_rfl) (fun KK hK => ?_)
  go_simp
  go_wp2_with (first | (go_at_call 37; refine HW.out.mono ?_; rintro e V1 ⟨g, nn, cap, rfl, d1, HP⟩))
  refine hK.out _ _ ?_ (fun hSn => ?_)
  · exact ⟨trivial, fun h => absurd (show true = false from h) (by decide), fun _ => d1⟩
  clear hK KK hSt; rename Ph _ _ _ _ _ _ _ => hSt
  refine ready_call_ph 8 rfl (by kernel_rfl) (fun KK hK => ?_)
  go_simp
  go_wp2_with (first | (go_at_call 35; refine HP.out.mono ?_; rintro e V2 ⟨⟨t1, t2, rfl⟩, HF⟩))
  refine hK.out _ _ ?_ (fun hSn => ?_)
  · exact ⟨trivial, fun h => absurd (show true = false from h) (by decide), fun h => absurd (show true = false from h) (by decide)⟩
  clear hK KK hSt; rename Ph _ _ _ _ _ _ _ => hSt
  refine done_ph (by kernel_rfl) ?_ _
  clear hSt
  refine NoPanic.normal ?_
  go_wp2_with fail
  go_ret
  exact ⟨rfl, HF.out.1, (AlienV.below HBd.out).trans HF.out.2⟩
end Go.Proofs.YtagamkahfiackaaGreatDoor
