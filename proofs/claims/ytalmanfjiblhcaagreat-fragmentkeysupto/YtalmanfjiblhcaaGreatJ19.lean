/- Put; Stores of versions beside one another: what each one has of its own; what stays while one of them is worked on; The walks of slices.Clone at columns, of table's own and Catalog.Table. -/
import Derived.Test.YtalmanfjiblhcaaGreatJ18
import Derived.Test.YtalmanfjiblhcaaGreatJ7
namespace Go.Proofs.YtalmanfjiblhcaaGreat
open Go.RowKit Go.Sort
theorem vput_ask {W : Zn} {w : World} {ps p : Nat} {M : Nat → Option Nd} {F : Nat → Prop} {l : List It} {rd : Nat → List MV} (hd : VnD W w ps p M F l rd) (hok : OkM (mdl rd l)) (hm : nVer (mdl rd l) ≤ 900000) (k : ByteArray) :
 ∃ (v : Vl) (L : List MV) (b : Bool), v = (get k l).getD vz ∧ ChAt w W.S v L ∧ pvs L = chM k (mdl rd l) ∧ L.length ≤ 900000 ∧
  Calls Tryz.prog 61 #[.pointer (some ⟨p, 0, none⟩), .string k] w (fun e w' => e = .returned (.tuple #[.slice v.a v.n v.c, .bool b]) ∧ Below w.heap.size w w') ∧
  (∀ V, Below w.heap.size w V → Calls Tryz.prog 78 #[.slice v.a v.n v.c] V fun e w' => e = .returned (.int .i64 (lastC (chM k (mdl rd l)))) ∧ w' = V) := by
 obtain ⟨L, hL, hpv, _⟩ := hd.chain k
 have hlen := ch_le hok.srt k
 rw [← hpv, pvs_len] at hlen
 have hget := tget_ hd.wk.st hd.tr k
 obtain ⟨v, hv⟩ : ∃ v, v = (get k l).getD vz := ⟨_, rfl⟩
 obtain ⟨b, hb⟩ : ∃ b, b = (get k l).isSome := ⟨_, rfl⟩
 rw [← hv, ← hb] at hget
 rw [← hv] at hL
 refine ⟨v, L, b, hv, hL, hpv, Nat.le_trans hlen hm, hget, fun V hV => ?_⟩
 obtain ⟨s1, s2, _⟩ := hL.row.shape
 have := last_ s1 (s2.on hV) (by omega)
 rw [hpv] at this
 exact this
def PutNext (W : Zn) (X : World) (ps p : Nat) (k : ByteArray) (m : List Ct) (e : Ending) (V1 : World) : Prop :=
 ∃ g nn cap, e = .returned (.slice (some ⟨g, 0, none⟩) nn cap) ∧ V1.cell? ⟨ps, 0, none⟩ = some (.pointer (some ⟨p, 0, none⟩)) ∧
  Hid (Calls Tryz.prog 79 #[.pointer (some ⟨p, 0, none⟩), .string k, .slice (some ⟨g, 0, none⟩) nn cap] V1 fun e V2 => (∃ t1 t2, e = .returned (.tuple #[t1, t2])) ∧ Hid (VnAt W V2 ps m ∧ AlienV X V2))
theorem put_next {W : Zn} {X : World} {ps p : Nat} {M : Nat → Option Nd} {F : Nat → Prop} {l : List It} {rd : Nat → List MV} (hd : VnD W X ps p M F l rd) (hok : OkM (mdl rd l)) (hm : nVer (mdl rd l) ≤ 900000) (k : ByteArray) {v : Vl} (hv : v = (get k l).getD vz) {L : List MV} (hL : ChAt X W.S v L) (hpv : pvs L = chM k (mdl rd l)) (x : MV) (h1 : 1 ≤ x.v.cm) (hl : lastC (chM k (mdl rd l)) ≤ x.v.cm) (hx : RowAt X x.r x.v.tx) :
 Calls Tryz.prog 80 #[.slice v.a v.n v.c, .agg #[.int .i64 x.v.cm, .slice x.r.a x.r.n x.r.c, .bool x.v.gn]] X (PutNext W X ps p k (putM k x.v (mdl rd l))) := by
 have hlen := ch_le hok.srt k
 rw [← hpv, pvs_len] at hlen
 have hml := hok.len
 rw [mdl_len] at hml
 refine (with_ x hL.row (by omega) h1).mono ?_
 rintro e V1 ⟨g, cap, rfl, hrow, hg, hat⟩
 have hN : ∀ y ∈ withM L x, RowAt X y.r y.v.tx := fun y hy => by
  rcases withM_mem hy with rfl | hy
  · exact hx
  · exact hL.rows y hy
 have hH := chain_turn hd k hv hL hrow hg hat hN
 rw [show ins k (pvs (withM L x)) (mdl rd l) = putM k x.v (mdl rd l) by unfold putM; rw [withM_pvs, hpv]] at hH
 refine ⟨g, _, cap, rfl, cell_of hH.bs rfl, ?_⟩
 refine (tput_ hH.wk.st hH.tr (by omega) k ⟨some ⟨g, 0, none⟩, (withM L x).length, cap⟩).mono fun e V2 ⟨e1, M', F', hk, ht⟩ => ⟨⟨_, _, e1⟩, hH.put (hok.put h1 hl) hk ht⟩
set_option maxRecDepth 100000 in
set_option maxHeartbeats 1000000 in
theorem vput_gone {W : Zn} {w : World} {ps : Nat} {m : List Ct} (h : VnAt W w ps m) (hm : nVer m ≤ 900000) (k : ByteArray) (t : Int) (h1 : 1 ≤ t) (hl : lastC (chM k m) ≤ t) (a : Option Addr) (n c : Nat) :
 Calls Tryz.prog 48 #[.pointer (some ⟨ps, 0, none⟩), .string k, .int .i64 t, .slice a n c, .bool true] w fun e w' => e = .returned .nilIface ∧ Hid (VnAt W w' ps (putM k ⟨t, ⟨#[]⟩, true⟩ m) ∧ AlienV w w') := by
 obtain ⟨p, M, F, l, rd, hd, rfl⟩ := h.ex
 obtain ⟨v, L, b, hv, hL, hpv, _, hg, hla⟩ := vput_ask hd h.ok hm k
 have HG := Lib.hid hg
 have HL := Lib.hid hla
 have c0 := cell_of (o := 0) hd.bs rfl
 have HX : Hid (∀ w1, Below w.heap.size w w1 → ∀ X, X = (w1.alloc (.cells #[.int .i64 t, .slice none 0 0, .bool true] 178)) → (∀ V, Below X.heap.size X V → V.cell? ⟨w1.heap.size, 0, none⟩ = some (.int .i64 t) ∧ V.cell? ⟨w1.heap.size, 1, none⟩ = some (.slice none 0 0) ∧ V.cell? ⟨w1.heap.size, 2, none⟩ = some (.bool true)) ∧ X.cell? ⟨ps, 0, none⟩ = some (.pointer (some ⟨p, 0, none⟩)) ∧
  Calls Tryz.prog 80 #[.slice v.a v.n v.c, .agg #[.int .i64 t, .slice none 0 0, .bool true]] X.drew (PutNext W X.drew ps p k (putM k ⟨t, ⟨#[]⟩, true⟩ (mdl rd l))) ∧ Below w.heap.size w X.drew) := fun w1 hb1 X hX => by
  have hB : Below w.heap.size w X := by rw [hX]; exact below_step hb1 (below_alloc _ _)
  have hn : X.heap[w1.heap.size]? = some (.cells #[.int .i64 t, .slice none 0 0, .bool true] 178 (0, 0)) := by rw [hX]; exact new_blk _ _
  have hBd := below_step hB (below_drew X)
  refine ⟨fun V hV => ?_, cell_of (hd.on hB).bs rfl, ?_, hBd⟩
  · have := (hV.block _ (blk_lt hn)).trans hn
    exact ⟨cell_of this rfl, cell_of this rfl, cell_of this rfl⟩
  · exact put_next (hd.on hBd) h.ok hm k hv ⟨row_on hL.row hBd, hL.lo, fun y hy => (hL.rows y hy).on hBd⟩ hpv ⟨⟨t, ⟨#[]⟩, true⟩, vz⟩ h1 hl (rowAt_nil _)
 have hlt : ¬ t < 1 := by omega
 have hlt2 : ¬ lastC (chM k (mdl rd l)) > t := by omega
 generalize putM k ⟨t, ⟨#[]⟩, true⟩ (mdl rd l) = m' at *
 generalize lastC (chM k (mdl rd l)) = lc at *
 clear h hd hg hla hm hv hL hpv hl
 go_enter Tryz.func48, Tryz.ntmps48
 go_wp2_with (first
  | (go_at_call 61; refine HG.out.mono ?_; rintro e w1 ⟨rfl, hb1⟩; have HB1 := Lib.hid hb1; clear hb1)
  | (go_at_call 78; refine (HL.out _ HB1.out).mono ?_; rintro e w2 ⟨rfl, rfl⟩)
  | fail)
 obtain ⟨X, hX⟩ : ∃ X, X = w2.alloc (.cells #[.int .i64 t, .slice none 0 0, .bool true] 178) := ⟨_, rfl⟩
 rw [← hX]
 obtain ⟨q1, q2, q3, q4⟩ := HX.out w2 HB1.out X hX
 have F1 := Lib.hid q1
 have HW := Lib.hid q3
 have HBd := Lib.hid q4
 clear hX HX HG HL HB1 q1 q3 q4 c0
 generalize w2.heap.size = B at *
 refine wp_region_noPanic ?_
 refine region_ph (A := fun _ => True) (e1 := 7) (B := fun V => Below X.heap.size X V) (e2 := 8) (C := fun V => V.cell? ⟨ps, 0, none⟩ = some (.pointer (some ⟨p, 0, none⟩))) (by kernel_rfl) ⟨trivial, fun _ => below_drew X, fun _ => q2⟩ (fun hSt => ?_)
 refine take_ph 0 (.pointer (some ⟨ps, 0, none⟩)) [] rfl (by kernel_rfl) (fun _ _ _ h => h) (Or.inl ⟨by rfl, ?_⟩) hSt (fun hSn => ?_)
 · intro V _; go_simp
 clear hSt; rename Ph _ _ _ _ _ _ _ => hSt; simp only [Act.put, prw]
 refine take_ph 1 (.pointer (some ⟨ps, 0, none⟩)) [] rfl (by kernel_rfl) (fun _ _ _ h => h) (Or.inl ⟨by rfl, ?_⟩) hSt (fun hSn => ?_)
 · intro V _; go_simp
 clear hSt; rename Ph _ _ _ _ _ _ _ => hSt; simp only [Act.put, prw]
 refine take_ph 2 (.pointer (some ⟨ps, 0, none⟩)) [] rfl (by kernel_rfl) (fun _ _ _ h => h) (Or.inl ⟨by rfl, ?_⟩) hSt (fun hSn => ?_)
 · intro V _; go_simp
 clear hSt; rename Ph _ _ _ _ _ _ _ => hSt; simp only [Act.put, prw]
 refine take_ph 3 (.pointer (some ⟨p, 0, none⟩)) [8] rfl (by kernel_rfl) (fun _ _ _ h => h) (Or.inl ⟨by rfl, ?_⟩) hSt (fun hSn => ?_)
 · rintro V ⟨_, hB, hC⟩; have e0 := hC (by decide); clear hB hC; go_simp
 clear hSt; rename Ph _ _ _ _ _ _ _ => hSt; simp only [Act.put, prw]
 refine take_ph 4 (.string k) [] rfl (by kernel_rfl) (fun _ _ _ h => h) (Or.inl ⟨by rfl, ?_⟩) hSt (fun hSn => ?_)
 · intro V _; go_simp
 clear hSt; rename Ph _ _ _ _ _ _ _ => hSt; simp only [Act.put, prw]
 refine take_ph 5 (.slice v.a v.n v.c) [] rfl (by kernel_rfl) (fun _ _ _ h => h) (Or.inl ⟨by rfl, ?_⟩) hSt (fun hSn => ?_)
 · intro V _; go_simp
 clear hSt; rename Ph _ _ _ _ _ _ _ => hSt; simp only [Act.put, prw]
 refine take_ph 6 (.agg #[.int .i64 t, .slice none 0 0, .bool true]) [7] rfl (by kernel_rfl) (fun _ _ _ h => h) (Or.inl ⟨by rfl, ?_⟩) hSt (fun hSn => ?_)
 · rintro V ⟨_, hB, hC⟩; have e0 := F1.out V (hB (by decide)); clear hB hC; go_simp
 clear hSt; rename Ph _ _ _ _ _ _ _ => hSt; simp only [Act.put, prw]
 refine ready_call_ph 7 rfl (by kernel_rfl) (fun KK hK => ?_)
 go_simp
 go_wp2_with (first | (go_at_call 80; refine HW.out.mono ?_; rintro e V1 ⟨g, nn, cap, rfl, d1, HP⟩))
 refine hK.out _ _ ?_ (fun hSn => ?_)
 · exact ⟨trivial, fun h => absurd (show true = false from h) (by decide), fun _ => d1⟩
 clear hK KK hSt; rename Ph _ _ _ _ _ _ _ => hSt
 refine ready_call_ph 8 rfl (by kernel_rfl) (fun KK hK => ?_)
 go_simp
 go_wp2_with (first | (go_at_call 79; refine HP.out.mono ?_; rintro e V2 ⟨⟨t1, t2, rfl⟩, HF⟩))
 refine hK.out _ _ ?_ (fun hSn => ?_)
 · exact ⟨trivial, fun h => absurd (show true = false from h) (by decide), fun h => absurd (show true = false from h) (by decide)⟩
 clear hK KK hSt; rename Ph _ _ _ _ _ _ _ => hSt
 refine done_ph (by kernel_rfl) ?_ _
 clear hSt
 refine NoPanic.normal ?_
 go_wp2_with fail
 go_ret
 exact ⟨rfl, HF.out.1, (AlienV.below HBd.out).trans HF.out.2⟩
set_option maxRecDepth 100000 in
set_option maxHeartbeats 1000000 in
theorem vput_row {W : Zn} {w : World} {ps : Nat} {m : List Ct} (h : VnAt W w ps m) (hm : nVer m ≤ 900000) (k : ByteArray) (t : Int) (h1 : 1 ≤ t) (hl : lastC (chM k m) ≤ t) {a : Option Addr} {n c : Nat} {s : ByteArray} (hn : n = (bsN s).length) (hb : BytesIn w a (bsN s)) (hz : a = none → c = 0) (hs : s.size ≤ 140737488355328) :
 Calls Tryz.prog 48 #[.pointer (some ⟨ps, 0, none⟩), .string k, .int .i64 t, .slice a n c, .bool false] w fun e w' => e = .returned .nilIface ∧ Hid (VnAt W w' ps (putM k ⟨t, s, false⟩ m) ∧ AlienV w w') := by
 have hWw := h.below.size
 obtain ⟨p, M, F, l, rd, hd, rfl⟩ := h.ex
 obtain ⟨v, L, b, hv, hL, hpv, _, hg, hla⟩ := vput_ask hd h.ok hm k
 have HG := Lib.hid hg
 have HL := Lib.hid hla
 have c0 := cell_of (o := 0) hd.bs rfl
 have HC : Hid (∀ w1, Below w.heap.size w w1 → Calls Tryz.prog 51 #[.slice a n c] (w1.alloc (.cells #[.int .i64 t, .slice none 0 0, .bool false] 178)) fun e w3 => ∃ (r : Vl) (X : World), e = .returned (.slice r.a r.n r.c) ∧ (Instr.storeAt 79 (.pointer (some ⟨w1.heap.size, 1, none⟩)) (.slice r.a r.n r.c)).run Tryz.prog w3 = .ok () X ∧
  Hid (∀ V, Below X.heap.size X V → V.cell? ⟨w1.heap.size, 0, none⟩ = some (.int .i64 t) ∧ V.cell? ⟨w1.heap.size, 1, none⟩ = some (.slice r.a r.n r.c) ∧ V.cell? ⟨w1.heap.size, 2, none⟩ = some (.bool false)) ∧ X.cell? ⟨ps, 0, none⟩ = some (.pointer (some ⟨p, 0, none⟩)) ∧
  Hid (Calls Tryz.prog 80 #[.slice v.a v.n v.c, .agg #[.int .i64 t, .slice r.a r.n r.c, .bool false]] X.drew (PutNext W X.drew ps p k (putM k ⟨t, s, false⟩ (mdl rd l)))) ∧ Hid (Below w.heap.size w X.drew)) := fun w1 hb1 => by
  have hba := below_alloc w1 (.cells #[.int .i64 t, .slice none 0 0, .bool false] 178)
  have hwa := below_step hb1 hba
  refine (clone_ hn (hb.on hwa) hz hs).mono ?_
  rintro e w3 ⟨r, rfl, hr, hrlo, hb3⟩
  have hbx : w3.heap[w1.heap.size]? = some (.cells #[.int .i64 t, .slice none 0 0, .bool false] 178 (0, 0)) := (hb3.block _ (blk_lt (new_blk w1 _))).trans (new_blk w1 _)
  have hw3 : Below w.heap.size w w3 := below_step hwa hb3
  have hX : Below w.heap.size w (w3.setCell ⟨w1.heap.size, 1, none⟩ (.slice r.a r.n r.c)) := hw3.setCell (p := ⟨w1.heap.size, 1, none⟩) hb1.size _
  have hbx2 : (w3.setCell ⟨w1.heap.size, 1, none⟩ (.slice r.a r.n r.c)).heap[w1.heap.size]? = some (.cells #[.int .i64 t, .slice r.a r.n r.c, .bool false] 178 (0, 0)) := by
   have := heap_set (o := 1) (.slice r.a r.n r.c) hbx
   simpa using this
  refine ⟨r, _, rfl, store_sl (cell_of hbx rfl) (frozen_of hbx) (by kernel_rfl), ?_⟩
  generalize hXX : w3.setCell ⟨w1.heap.size, 1, none⟩ (.slice r.a r.n r.c) = X at *
  have hXd := below_step hX (below_drew X)
  have hrX : RowAt X r s := hr.keep fun g hg => by
   obtain ⟨cur, hc⟩ := hr.blk hg
   rw [← hXX]
   exact heap_far _ (kind_ne hc hbx (by decide))
  refine ⟨fun V hV => ?_, cell_of (hd.on hX).bs rfl, ?_, hXd⟩
  · have := (hV.block _ (blk_lt hbx2)).trans hbx2
    exact ⟨cell_of this rfl, cell_of this rfl, cell_of this rfl⟩
  · exact put_next (hd.on hXd) h.ok hm k hv ⟨row_on hL.row hXd, hL.lo, fun y hy => (hL.rows y hy).on hXd⟩ hpv ⟨⟨t, s, false⟩, r⟩ h1 hl (hrX.on (below_drew X))
 have hlt : ¬ t < 1 := by omega
 have hlt2 : ¬ lastC (chM k (mdl rd l)) > t := by omega
 generalize putM k ⟨t, s, false⟩ (mdl rd l) = m' at *
 generalize lastC (chM k (mdl rd l)) = lc at *
 clear h hd hg hla hm hv hL hpv hl hn hb hz hs hWw
 go_enter Tryz.func48, Tryz.ntmps48
 go_wp2_with (first
  | (go_at_call 61; refine HG.out.mono ?_; rintro e w1 ⟨rfl, hb1⟩; have HB1 := Lib.hid hb1; clear hb1)
  | (go_at_call 78; refine (HL.out _ HB1.out).mono ?_; rintro e w2 ⟨rfl, rfl⟩)
  | (go_at_call 51; refine (HC.out _ HB1.out).mono ?_; rintro e w3 ⟨r, X, rfl, hst, F1, q2, HW, HBd⟩)
  | (refine wpList_store_at rfl _ _ _ rfl _ _ rfl rfl hst ?_; clear hst)
  | fail)
 clear HC HG HL HB1 c0
 generalize w2.heap.size = B at *
 refine wp_region_noPanic ?_
 refine region_ph (A := fun _ => True) (e1 := 7) (B := fun V => Below X.heap.size X V) (e2 := 8) (C := fun V => V.cell? ⟨ps, 0, none⟩ = some (.pointer (some ⟨p, 0, none⟩))) (by kernel_rfl) ⟨trivial, fun _ => below_drew X, fun _ => q2⟩ (fun hSt => ?_)
 refine take_ph 0 (.pointer (some ⟨ps, 0, none⟩)) [] rfl (by kernel_rfl) (fun _ _ _ h => h) (Or.inl ⟨by rfl, ?_⟩) hSt (fun hSn => ?_)
 · intro V _; go_simp
 clear hSt; rename Ph _ _ _ _ _ _ _ => hSt; simp only [Act.put, prw]
 refine take_ph 1 (.pointer (some ⟨ps, 0, none⟩)) [] rfl (by kernel_rfl) (fun _ _ _ h => h) (Or.inl ⟨by rfl, ?_⟩) hSt (fun hSn => ?_)
 · intro V _; go_simp
 clear hSt; rename Ph _ _ _ _ _ _ _ => hSt; simp only [Act.put, prw]
 refine take_ph 2 (.pointer (some ⟨ps, 0, none⟩)) [] rfl (by kernel_rfl) (fun _ _ _ h => h) (Or.inl ⟨by rfl, ?_⟩) hSt (fun hSn => ?_)
 · intro V _; go_simp
 clear hSt; rename Ph _ _ _ _ _ _ _ => hSt; simp only [Act.put, prw]
 refine take_ph 3 (.pointer (some ⟨p, 0, none⟩)) [8] rfl (by kernel_rfl) (fun _ _ _ h => h) (Or.inl ⟨by rfl, ?_⟩) hSt (fun hSn => ?_)
 · rintro V ⟨_, hB, hC⟩; have e0 := hC (by decide); clear hB hC; go_simp
 clear hSt; rename Ph _ _ _ _ _ _ _ => hSt; simp only [Act.put, prw]
 refine take_ph 4 (.string k) [] rfl (by kernel_rfl) (fun _ _ _ h => h) (Or.inl ⟨by rfl, ?_⟩) hSt (fun hSn => ?_)
 · intro V _; go_simp
 clear hSt; rename Ph _ _ _ _ _ _ _ => hSt; simp only [Act.put, prw]
 refine take_ph 5 (.slice v.a v.n v.c) [] rfl (by kernel_rfl) (fun _ _ _ h => h) (Or.inl ⟨by rfl, ?_⟩) hSt (fun hSn => ?_)
 · intro V _; go_simp
 clear hSt; rename Ph _ _ _ _ _ _ _ => hSt; simp only [Act.put, prw]
 refine take_ph 6 (.agg #[.int .i64 t, .slice r.a r.n r.c, .bool false]) [7] rfl (by kernel_rfl) (fun _ _ _ h => h) (Or.inl ⟨by rfl, ?_⟩) hSt (fun hSn => ?_)
 · rintro V ⟨_, hB, hC⟩; have e0 := F1.out V (hB (by decide)); clear hB hC; go_simp
 clear hSt; rename Ph _ _ _ _ _ _ _ => hSt; simp only [Act.put, prw]
 refine ready_call_ph 7 rfl (by kernel_rfl) (fun KK hK => ?_)
 go_simp
 go_wp2_with (first | (go_at_call 80; refine HW.out.mono ?_; rintro e V1 ⟨g, nn, cap, rfl, d1, HP⟩))
 refine hK.out _ _ ?_ (fun hSn => ?_)
 · exact ⟨trivial, fun h => absurd (show true = false from h) (by decide), fun _ => d1⟩
 clear hK KK hSt; rename Ph _ _ _ _ _ _ _ => hSt
 refine ready_call_ph 8 rfl (by kernel_rfl) (fun KK hK => ?_)
 go_simp
 go_wp2_with (first | (go_at_call 79; refine HP.out.mono ?_; rintro e V2 ⟨⟨t1, t2, rfl⟩, HF⟩))
 refine hK.out _ _ ?_ (fun hSn => ?_)
 · exact ⟨trivial, fun h => absurd (show true = false from h) (by decide), fun h => absurd (show true = false from h) (by decide)⟩
 clear hK KK hSt; rename Ph _ _ _ _ _ _ _ => hSt
 refine done_ph (by kernel_rfl) ?_ _
 clear hSt
 refine NoPanic.normal ?_
 go_wp2_with fail
 go_ret
 exact ⟨rfl, HF.out.1, (AlienV.below HBd.out).trans HF.out.2⟩
end Go.Proofs.YtalmanfjiblhcaaGreat
namespace Go.Proofs.YtalmanfjiblhcaaGreat
open Go.RowKit Go.Sort
theorem VnD.keepZ {W : Zn} {w w' : World} {ps p : Nat} {M : Nat → Option Nd} {F : Nat → Prop} {l : List It} {rd : Nat → List MV} (h : VnD W w ps p M F l rd) (W' : Zn) (hW : ∀ k, k < w.heap.size → W'.S k → W.S k) (hs : Since W' w')
 (hk : ∀ b, ¬ W.S b → b < w.heap.size → w'.heap[b]? = w.heap[b]?) (hy : ∀ (g : Nat) (cur : Array Value), w.heap[g]? = some (.cells cur 5 (0, 0)) → w'.heap[g]? = w.heap[g]?) : VnD W' w' ps p M F l rd := by
 refine ⟨⟨h.wk.st.keep fun k hk' => hk k (h.wk.mine k hk') (h.wk.st.lt hk'), hs, fun k hk' q => h.wk.mine k hk' (hW k (h.wk.st.lt hk') q)⟩, h.tr.keep (hk _ h.lp h.tr.lt), fun q => h.lp (hW _ h.tr.lt q), fun q => h.ls (hW _ (blk_lt h.bs) q), (hk _ h.ls (blk_lt h.bs)).trans h.bs, ⟨fun x hx => ?_, h.ch.ap⟩⟩
 obtain ⟨g, e, hc⟩ := h.ch.at' x hx
 have hc2 := hc.keep (w' := w') (fun g' hg' => hk _ (hc.lo g' hg') (by obtain ⟨cur, hb⟩ := hc.blk hg'; exact blk_lt hb)) hy
 exact ⟨g, e, ⟨hc2.row, fun g' hg' q => hc.lo g' hg' (hW _ (by obtain ⟨cur, hb⟩ := hc.blk hg'; exact blk_lt hb) q), hc2.rows⟩⟩
theorem VnAt.keepZ {W : Zn} {w w' : World} {ps : Nat} {m : List Ct} (h : VnAt W w ps m) (W' : Zn) (hW : ∀ k, k < w.heap.size → W'.S k → W.S k) (hs : Since W' w')
 (hk : ∀ b, ¬ W.S b → b < w.heap.size → w'.heap[b]? = w.heap[b]?) (hy : ∀ (g : Nat) (cur : Array Value), w.heap[g]? = some (.cells cur 5 (0, 0)) → w'.heap[g]? = w.heap[g]?) : VnAt W' w' ps m := by
 obtain ⟨p, M, F, l, rd, hd, e⟩ := h.ex
 exact ⟨⟨p, M, F, l, rd, hd.keepZ W' hW hs hk hy, e⟩, h.ok⟩
theorem VnAt.ls {W : Zn} {w : World} {ps : Nat} {m : List Ct} (h : VnAt W w ps m) : ¬ W.S ps ∧ w.heap[ps]? ≠ none := by
 obtain ⟨p, M, F, l, rd, hd, e⟩ := h.ex
 exact ⟨hd.ls, by rw [hd.bs]; simp⟩
def Zn.but (w : World) (Ft : Nat → Prop) : Zn := ⟨w, fun k => k < w.heap.size ∧ ¬ Ft k, fun _ h => h.1⟩
def VnF (w : World) (Ft : Nat → Prop) (ps : Nat) (m : List Ct) : Prop := VnAt (Zn.but w Ft) w ps m
structure Frame (Ft : Nat → Prop) (w w' : World) : Prop where
 os : w'.os = w.os
 tape : w'.tape = w.tape
 output : w'.output = w.output
 size : w.heap.size ≤ w'.heap.size
 block : ∀ k, k < w.heap.size → ¬ Ft k → w'.heap[k]? = w.heap[k]?
theorem Since.frame {w w' : World} {Ft : Nat → Prop} (h : Since (Zn.but w Ft) w') : Frame Ft w w' := ⟨h.os, h.tape, h.output, h.size, fun k hk hn => h.block k ⟨hk, hn⟩⟩
theorem Frame.refl (Ft : Nat → Prop) (w : World) : Frame Ft w w := ⟨rfl, rfl, rfl, Nat.le_refl _, fun _ _ _ => rfl⟩
theorem Frame.below {Ft : Nat → Prop} {w w' : World} (h : Below w.heap.size w w') : Frame Ft w w' := ⟨h.os, h.tape, h.output, h.size, fun k hk _ => h.block k hk⟩
theorem Frame.none {w w' : World} (h : Frame (fun _ => False) w w') : Below w.heap.size w w' := ⟨h.os, h.tape, h.output, h.size, fun k hk => h.block k hk id⟩
theorem Frame.mono {A B : Nat → Prop} {w w' : World} (h : Frame A w w') (hs : ∀ k, A k → B k) : Frame B w w' := ⟨h.os, h.tape, h.output, h.size, fun k hk hn => h.block k hk fun q => hn (hs k q)⟩
theorem Frame.trans {A B : Nat → Prop} {a b c : World} (h : Frame A a b) (k : Frame B b c) (hB : ∀ q, q < a.heap.size → B q → A q) : Frame A a c :=
 ⟨k.os.trans h.os, k.tape.trans h.tape, k.output.trans h.output, Nat.le_trans h.size k.size, fun q hq hn => (k.block q (Nat.lt_of_lt_of_le hq h.size) fun hb => hn (hB q hq hb)).trans (h.block q hq hn)⟩
def grow (w : World) (Ft : Nat → Prop) (k : Nat) : Prop := Ft k ∨ w.heap.size ≤ k
theorem VnAt.vnF {w w' : World} {Ft : Nat → Prop} {ps : Nat} {m : List Ct} (h : VnAt (Zn.but w Ft) w' ps m) : VnF w' (grow w Ft) ps m ∧ Frame Ft w w' := by
 have hs := h.below
 exact ⟨h.keepZ _ (fun k _ q => ⟨Nat.lt_of_not_le fun hl => q.2 (.inr hl), fun hf => q.2 (.inl hf)⟩) (Since.refl (Zn.but w' (grow w Ft))) (fun _ _ _ => rfl) (fun _ _ _ => rfl), hs.frame⟩
theorem VnAt.allF {w w' : World} {ps : Nat} {m : List Ct} (h : VnAt (Zn.all w) w' ps m) : VnF w' (fun k => w.heap.size ≤ k) ps m ∧ Below w.heap.size w w' := by
 have hs := h.below
 refine ⟨h.keepZ _ (fun k _ q => Nat.lt_of_not_le q.2) (Since.refl (Zn.but w' _)) (fun _ _ _ => rfl) (fun _ _ _ => rfl), hs.os, hs.tape, hs.output, hs.size, fun k hk => hs.block k hk⟩
theorem VnF.keep {w w' : World} {A B : Nat → Prop} {ps : Nat} {m : List Ct} (h : VnF w A ps m) (hf : Frame B w w') (hd : ∀ k, k < w.heap.size → A k → ¬ B k) (hy : ∀ (g : Nat) (cur : Array Value), w.heap[g]? = some (.cells cur 5 (0, 0)) → w'.heap[g]? = w.heap[g]?) : VnF w' A ps m :=
 VnAt.keepZ h (Zn.but w' A) (fun _ hk q => ⟨hk, q.2⟩) (Since.refl _) (fun b hb hl => hf.block b hl (hd b hl (Classical.byContradiction fun hn => hb ⟨hl, hn⟩))) hy
end Go.Proofs.YtalmanfjiblhcaaGreat
namespace Go.Proofs.YtalmanfjiblhcaaGreat.Tb
open Go.RowKit Go.Sort
def CloneTo (w : World) (cs : List Col) (L : Nat) (e : Ending) (w' : World) : Prop :=
 ∃ a c, e = .returned (.slice a L c) ∧ ColsIn w' a cs ∧ L ≤ c ∧ (a = none → c = 0) ∧ (∀ b o, a = some ⟨b, o, none⟩ → w.heap.size ≤ b) ∧ Free w' a ∧ Below w.heap.size w w'
set_option maxRecDepth 100000 in
set_option maxHeartbeats 1000000 in
theorem cloneC_ (a : Option Addr) (c : Nat) (cs : List Col) (w : World) (h : ColsIn w a cs) (hnil : a = none → c = 0) (hlen : cs.length * 32 ≤ 140737488355328) :
 Calls Tryz.prog 68 #[.slice a cs.length c] w (CloneTo w cs cs.length) := by
 have q22 : ∀ (w : World) (a : Option Addr) (n c n' c' : Nat), (binOp .eql 42 (.slice a n c) (.slice none n' c')).run Tryz.prog w = .ok (.bool a.isNone) w := fun w a n c n' c' => Lib.run_eql_slice_nil w _ _ a n c n' c' Tryz.underlying42
 cases a with
 | none =>
   have h0 : cs = [] := by
    refine Classical.byContradiction fun hne => ?_
    obtain ⟨_, _, e, _⟩ := h 0 (List.length_pos_iff.2 hne)
    cases e
   subst h0
   obtain rfl := hnil rfl
   go_enter Tryz.func68, Tryz.ntmps68
   go_wp2_with fail
   go_ret
   exact ⟨none, 0, rfl, colsIn_nil _ _, Nat.le_refl _, fun _ => rfl, (fun b o e => (by cases e)), (fun b o e => (by cases e)), Below.refl _ _⟩
 | some ad =>
   obtain ⟨b, o, m⟩ := ad
   obtain ⟨i0, hi, hz0, hz1, hz2⟩ := info_parts infoC
   have hb1 := below_alloc1 w (.cells #[] 112)
   have hnews : ∀ j u, (colCells cs)[j]? = some u → (w.alloc (.cells #[] 112)).cell? ((⟨b, o, m⟩ : Addr).add j) = some u := by
    by_cases h0 : cs = []
    · subst h0; intro j u hj; simp [colCells] at hj
    · obtain ⟨b', o', e, _⟩ := h 0 (List.length_pos_iff.2 h0)
      simp only [Option.some.injEq, Addr.mk.injEq] at e
      obtain ⟨rfl, rfl, rfl⟩ := e
      exact colNews (h.on hb1)
   obtain ⟨v', w', hr, h2, h3, _, h5⟩ := run_append_own_at (P := Tryz.prog) (w.alloc (.cells #[] 112)) w.heap.size 42 42 112 i0 (.agg #[.string ⟨#[]⟩, .int .i64 0, .bool false, .bool false]) 4 32 Tryz.underlying42 hi hz0 hz1 hz2 rfl (by decide) (.slice (some ⟨w.heap.size, 0, none⟩) 0 0) 0 [] (World.ownsRow_made w #[] 0 (Nat.le_refl _) (Nat.zero_le _) rfl) ⟨b, o, m⟩ cs.length c (colCells cs) (colCells_len cs) hnews (colCells_one cs) (by unfold maxLen; omega) (by omega) (by simp)
   have ho : OwnC w' w.heap.size v' cs := by
    unfold OwnC
    have := h2
    rwa [Nat.zero_add, List.nil_append] at this
   have HR : Hid (∃ a3 c3, v' = .slice a3 cs.length c3 ∧ ColsIn w' a3 cs ∧ cs.length ≤ c3 ∧ (a3 = none → c3 = 0) ∧ (∀ b o, a3 = some ⟨b, o, none⟩ → w.heap.size ≤ b) ∧ Free w' a3) := by
    obtain ⟨a3, c3, rfl, hc, _⟩ := ho.cols
    obtain ⟨_, q2, q3, q4⟩ := ho.cap
    exact ⟨a3, c3, rfl, hc, q2, q3, q4, ho.free⟩
   have HB : Hid (Below w.heap.size w w') := hb1.grown h3 (by simp) (fun k hk => by simp [Value.ownBlock] at hk; omega)
   have HAp : Hid ((Builtin.append_ #[42, 42] 42 #[.slice (some ⟨w.heap.size, 0, none⟩) 0 0, .slice (some ⟨b, o, m⟩) cs.length c]).run Tryz.prog (w.alloc (.cells #[] 112)) = .ok v' w') := hr
   unfold CloneTo
   generalize cs.length = L at *
   clear h hnil hlen hb1 hnews hr h2 h3 h5 ho
   go_enter Tryz.func68, Tryz.ntmps68
   go_wp2_with (first | (refine wpList_exec rfl (exec_append rfl rfl rfl HAp.out) ?_; clear HAp) | fail)
   obtain ⟨a3, c3, hv, hR⟩ := HR.out
   go_ret
   exact ⟨a3, c3, by rw [hv]; rfl, hR.1, hR.2.1, hR.2.2.1, hR.2.2.2.1, hR.2.2.2.2, HB.out⟩
set_option maxRecDepth 100000 in
set_option maxHeartbeats 1000000 in
theorem ownF_ (nm : ByteArray) (a : Option Addr) (c : Nat) (cs : List Col) (w : World) (h : ColsIn w a cs) (hnil : a = none → c = 0) (hlen : cs.length * 32 ≤ 140737488355328) :
 Calls Tryz.prog 39 #[.agg #[.string nm, .slice a cs.length c]] w (TwinF w nm cs cs.length) := by
 obtain ⟨W1, hW1⟩ : ∃ W1, W1 = (w.alloc (.cells #[.string nm, .slice a cs.length c] 44)).alloc (.cells #[.string ⟨#[]⟩, .slice none 0 0] 44) := ⟨_, rfl⟩
 have hB1 : Below w.heap.size w W1 := by rw [hW1]; exact below_step (below_alloc1 _ _) (below_alloc1 _ _)
 have hsz : W1.heap.size = w.heap.size + 1 + 1 := by rw [hW1]; simp
 have hT1 : TbB W1 w.heap.size nm (.slice a cs.length c) := by rw [hW1]; exact (tbB_new _ _ _ _ _ _).on (below_alloc1 _ _)
 have hT2 : TbB W1 (w.heap.size + 1) ⟨#[]⟩ (.slice none 0 0) := by
  have := tbB_new (w.alloc (.cells #[.string nm, .slice a cs.length c] 44)) ⟨#[]⟩ none 0 0 44
  rw [hW1]; simpa using this
 have HCl := Lib.hid (cloneC_ a c cs W1.drew ((h.on hB1).on (below_drew W1)) hnil hlen)
 have HT1 := Lib.hid (hT1.on (below_drew W1))
 have HT2 := Lib.hid (hT2.on (below_drew W1))
 have HB1 := Lib.hid (below_step hB1 (below_drew W1))
 have HSz : Hid (W1.drew.heap.size = w.heap.size + 1 + 1) := hsz
 have HW1 := Lib.hid hW1.symm
 have HA : Hid (W1.drew.cell? ⟨w.heap.size, 0, none⟩ = some (.string nm) ∧ W1.drew.cell? ⟨w.heap.size, 1, none⟩ = some (.slice a cs.length c)) := ⟨HT1.out.1, HT1.out.2.1⟩
 have HA0 : Hid (∀ V : World, V.cell? ⟨w.heap.size, 0, none⟩ = some (.string nm) ∧ V.cell? ⟨w.heap.size, 1, none⟩ = some (.slice a cs.length c) → V.cell? ⟨w.heap.size, 0, none⟩ = some (.string nm)) := fun _ h => h.1
 have HA1 : Hid (∀ V : World, V.cell? ⟨w.heap.size, 0, none⟩ = some (.string nm) ∧ V.cell? ⟨w.heap.size, 1, none⟩ = some (.slice a cs.length c) → V.cell? ⟨w.heap.size, 1, none⟩ = some (.slice a cs.length c)) := fun _ h => h.2
 unfold TwinF
 unfold CloneTo at HCl
 generalize cs.length = L at *
 clear h hnil hlen hB1 hsz hT1 hT2 hW1
 go_enter Tryz.func39, Tryz.ntmps39
 go_wp2_with fail
 rw [HW1.out]
 refine wp_region_noPanic ?_
 refine region_ph (A := fun _ => True) (e1 := 6) (B := (fun V => V.cell? ⟨w.heap.size, 0, none⟩ = some (.string nm) ∧ V.cell? ⟨w.heap.size, 1, none⟩ = some (.slice a L c))) (e2 := 9999) (C := (fun _ => True)) (by kernel_rfl) (⟨trivial, fun _ => HA.out, fun _ => trivial⟩) (fun hSt => ?_)
 refine take_ph 0 (.pointer (some ⟨w.heap.size, 0, none⟩)) [] rfl (by kernel_rfl) (fun _ _ _ h => h) (Or.inl ⟨by rfl, ?_⟩) hSt (fun hSn => ?_)
 · intro V _; go_simp
 clear hSt; rename Ph _ _ _ _ _ _ _ => hSt; simp only [Act.put, prw]
 refine take_ph 1 (.string nm) [6] rfl (by kernel_rfl) (fun _ _ _ h => h) (Or.inl ⟨by rfl, ?_⟩) hSt (fun hSn => ?_)
 · rintro V ⟨_, hB, hC⟩; have hh := hB (by decide); have e0 := HA0.out V hh; clear hB hC; go_simp
 clear hSt; rename Ph _ _ _ _ _ _ _ => hSt; simp only [Act.put, prw]
 refine take_ph 2 (.pointer (some ⟨w.heap.size, 1, none⟩)) [] rfl (by kernel_rfl) (fun _ _ _ h => h) (Or.inl ⟨by rfl, ?_⟩) hSt (fun hSn => ?_)
 · intro V _; go_simp
 clear hSt; rename Ph _ _ _ _ _ _ _ => hSt; simp only [Act.put, prw]
 refine take_ph 3 (.slice a L c) [6] rfl (by kernel_rfl) (fun _ _ _ h => h) (Or.inl ⟨by rfl, ?_⟩) hSt (fun hSn => ?_)
 · rintro V ⟨_, hB, hC⟩; have hh := hB (by decide); have e0 := HA1.out V hh; clear hB hC; go_simp
 clear hSt; rename Ph _ _ _ _ _ _ _ => hSt; simp only [Act.put, prw]
 refine ready_call_ph 4 rfl (by kernel_rfl) (fun KK hK => ?_)
 go_simp
 go_wp2_with (first | (go_at_call 68; refine HCl.out.mono ?_; rintro e V1 ⟨a3, c3, rfl, hc3, hn3, hna3, hfr3, hfe3, hb1⟩))
 refine hK.out _ _ ?_ (fun hSn => ?_)
 · exact ⟨trivial, fun _ => ⟨(HT1.out.on hb1).1, (HT1.out.on hb1).2.1⟩, fun _ => trivial⟩
 clear hK KK hSt; rename Ph _ _ _ _ _ _ _ => hSt
 have HT4 := Lib.hid (HT2.out.on hb1)
 have HFr : Hid (∀ b o, a3 = some ⟨b, o, none⟩ → w.heap.size + 1 + 1 ≤ b) := fun b o e => by have := hfr3 b o e; rw [HSz.out] at this; exact this
 have HBr : Hid (∀ u v, Below w.heap.size w ((V1.setCell ⟨w.heap.size + 1, 0, none⟩ u).setCell ⟨w.heap.size + 1, 1, none⟩ v)) := fun u v => ((below_step HB1.out hb1).setCell (Nat.le_succ _) _).setCell (Nat.le_succ _) _
 have HCr : Hid (∀ u v, ColsIn ((V1.setCell ⟨w.heap.size + 1, 0, none⟩ u).setCell ⟨w.heap.size + 1, 1, none⟩ v) a3 cs) := fun u v => (hc3.set (fun b o e => by have := HFr.out b o e; omega)).set (fun b o e => by have := HFr.out b o e; omega)
 have HN3 : Hid (L ≤ c3 ∧ (a3 = none → c3 = 0)) := ⟨hn3, hna3⟩
 have HFe : Hid (∀ u v, Free ((V1.setCell ⟨w.heap.size + 1, 0, none⟩ u).setCell ⟨w.heap.size + 1, 1, none⟩ v) a3) := fun u v => (hfe3.set _ _).set _ _
 clear hc3 hn3 hna3 hfr3 hfe3 hb1 HCl HT1 HT2 HB1
 refine take_ph 5 (.agg #[.string nm, .slice a3 L c3]) [] rfl (by kernel_rfl) (fun _ _ _ h => h) (Or.inl ⟨by rfl, ?_⟩) hSt (fun hSn => ?_)
 · intro V _; go_simp
 clear hSt; rename Ph _ _ _ _ _ _ _ => hSt; simp only [Act.put, prw]
 refine ready_store_ph 6 rfl (by kernel_rfl) rfl 44 _ _ rfl _ _ rfl rfl (store_tab HT4.out rfl rfl) (⟨trivial, fun h => absurd (show true = false from h) (by decide), fun _ => trivial⟩) (fun hSn => ?_)
 clear hSt; rename Ph _ _ _ _ _ _ _ => hSt
 simp only [Act.put]
 refine done_ph (by kernel_rfl) ?_ _
 clear hSt
 refine NoPanic.normal ?_
 obtain ⟨t0, t1, _, _⟩ := HT4.out
 go_wp2_with fail
 refine bodyPost_ret (v := .agg #[.string nm, .slice a3 L c3]) ?_ rfl ⟨a3, c3, rfl, ⟨HCr.out _ _, HN3.out.1, HN3.out.2, (fun b o e => (by have := HFr.out b o e; omega)), HFe.out _ _⟩, HBr.out _ _⟩
 simp [results, Tryz.results39, go_sem, t0, t1]
theorem own_ (nm : ByteArray) (a : Option Addr) (c : Nat) (cs : List Col) (w : World) (h : ColsIn w a cs) (hnil : a = none → c = 0) (hlen : cs.length * 32 ≤ 140737488355328) :
 Calls Tryz.prog 39 #[.agg #[.string nm, .slice a cs.length c]] w (TwinTo w nm cs cs.length) :=
 (ownF_ nm a c cs w h hnil hlen).mono fun _ _ ⟨a3, c3, he, ⟨h1, h2, h3, h4, _⟩, hb⟩ => ⟨a3, c3, he, h1, h2, h3, h4, hb⟩
def TabTo (w : World) (nm : ByteArray) (cs : List Col) (L : Nat) (e : Ending) (w' : World) : Prop :=
 ∃ a c, e = .returned (.tuple #[.agg #[.string nm, .slice a L c], .nilIface]) ∧ (ColsIn w' a cs ∧ L ≤ c ∧ (a = none → c = 0) ∧ (∀ b o, a = some ⟨b, o, none⟩ → w.heap.size ≤ b) ∧ Free w' a) ∧ Below w.heap.size w w'
set_option maxRecDepth 100000 in
set_option maxHeartbeats 1000000 in
theorem tableC_ (N BC : Nat) (ts : List TV) (i : Nat) (w : World) (h : CatIn w N BC ts) (hi : i < ts.length) (hlen : ts[i].cs.length ≤ 16) :
 Calls Tryz.prog 69 #[.pointer (some ⟨BC, 0, none⟩), .int .i64 i] w (TabTo w ts[i].nm ts[i].cs ts[i].cs.length) := by
 obtain ⟨W1, hW1⟩ : ∃ W1, W1 = w.alloc (.cells #[.string ⟨#[]⟩, .slice none 0 0] 44) := ⟨_, rfl⟩
 have hB1 : Below w.heap.size w W1 := by rw [hW1]; exact below_alloc1 _ _
 have hT1 : TbB W1 w.heap.size ⟨#[]⟩ (.slice none 0 0) := by rw [hW1]; exact tbB_new _ _ _ _ _ _
 have hC1 := h.on hB1
 have HL := Lib.hid (lenC_ N BC ts W1 hC1)
 have HOw := Lib.hid (ownF_ ts[i].nm ts[i].a ts[i].c ts[i].cs W1 (hC1.cols i hi).1 (hC1.cols i hi).2.2 (by omega))
 obtain ⟨a, c, c0, htb, _⟩ := hC1.row
 obtain ⟨b, o, rfl, q0, q1⟩ := htb i hi
 have HT1 := Lib.hid hT1
 have HB1 := Lib.hid hB1
 have HW1 := Lib.hid hW1.symm
 have hi2 : (i : Int) < (ts.length : Int) := by omega
 have hi3 : ¬ ((ts.length : Int) ≤ (i : Int)) := by omega
 have hi4 : ¬ ((i : Int) < 0) := by omega
 have hlen32 := h.len
 unfold TwinF at HOw
 unfold TabTo
 generalize ts[i].nm = nm at *
 generalize ts[i].a = ta at *
 generalize ts[i].c = tc at *
 generalize ts[i].cs = cs at *
 generalize ts.length = L at *
 generalize cs.length = M at *
 clear h hB1 hT1 hC1 htb hW1 hi
 go_enter Tryz.func69, Tryz.ntmps69
 go_wp2_with fail
 rw [HW1.out]
 refine HL.out.mono ?_
 rintro e w1 ⟨rfl, rfl⟩
 go_wp2_with fail
 refine HOw.out.mono ?_
 rintro e w2 ⟨a2, c2, rfl, ⟨hc2, hn2, hna2, hfr2, hfe2⟩, hb2⟩
 have HT2 := Lib.hid (HT1.out.on hb2)
 have HFr : Hid (∀ b o, a2 = some ⟨b, o, none⟩ → w.heap.size < b) := fun b o e => Nat.lt_of_lt_of_le HT1.out.lt (hfr2 b o e)
 have HBr : Hid (∀ u v, Below w.heap.size w ((w2.setCell ⟨w.heap.size, 0, none⟩ u).setCell ⟨w.heap.size, 1, none⟩ v)) := fun u v => ((below_step HB1.out hb2).setCell (Nat.le_refl _) _).setCell (Nat.le_refl _) _
 have HCr : Hid (∀ u v, ColsIn ((w2.setCell ⟨w.heap.size, 0, none⟩ u).setCell ⟨w.heap.size, 1, none⟩ v) a2 cs) := fun u v => (hc2.set (fun b o e => Nat.ne_of_gt (HFr.out b o e))).set (fun b o e => Nat.ne_of_gt (HFr.out b o e))
 have HN2 : Hid (M ≤ c2 ∧ (a2 = none → c2 = 0)) := ⟨hn2, hna2⟩
 have HFe : Hid (∀ u v, Free ((w2.setCell ⟨w.heap.size, 0, none⟩ u).setCell ⟨w.heap.size, 1, none⟩ v) a2) := fun u v => (hfe2.set _ _).set _ _
 obtain ⟨t0, t1, f0, f1⟩ := HT2.out
 clear hc2 hn2 hna2 hfr2 hfe2 hb2 HL HOw HT1 HB1 c0 q0 q1
 go_wp2_with fail
 refine bodyPost_ret (v := .tuple #[.agg #[.string nm, .slice a2 M c2], .nilIface]) ?_ rfl ⟨a2, c2, rfl, ⟨HCr.out _ _, HN2.out.1, HN2.out.2, (fun b o e => Nat.le_of_lt (HFr.out b o e)), HFe.out _ _⟩, HBr.out _ _⟩
 simp [results, Tryz.results69, go_sem, t0, t1]
end Go.Proofs.YtalmanfjiblhcaaGreat.Tb
