/- The document's Save: a text is saved. -/
import Derived.Test.YthaihallfjjnpaaGreatDoorQ5
import Derived.Test.YthaihallfjjnpaaGreatDoorJ2
namespace Go.Proofs.YthaihallfjjnpaaGreatDoor
open Go.RowKit Go.Sort Go.Maps

theorem infoRD2 : (Tryz.prog.info? 32).map (fun i => (i.zero, i.size)) = some (some (.agg #[.int .i64 0, .int .i64 0, .slice none 0 0, .bool false, .bool false, .int .i64 0]), 6) := by kernel_rfl
theorem alloc_rd (w : World) : (Instr.alloc 32 true (.tuple #[])).run Tryz.prog w = .ok (.pointer (some ⟨w.heap.size, 0, none⟩)) (w.alloc (.cells #[.int .i64 0, .int .i64 0, .slice none 0 0, .bool false, .bool false, .int .i64 0] 32)) := by
  have hz := (zero_of_info infoRD2).1 w
  simp [Instr.alloc, hz, newVar, newObj, go_sem, Value.cells, Result.andThen]
  rfl
theorem ready_alloc_rd {l : List Oper} {Q : Exit → Act → World → Prop} {md : Region.Mode} {S : World → Prop} (i : Nat) {oi : Oper} {post : List Oper} {fuel : Nat} {listed : Array Bool} {a : Act} {w : World} (hi : l.drop i = oi :: post) (hr : Region.ready md l.toArray listed = [i]) (hw : Region.wanted oi (yielded l.toArray a.tmps) = true)
    (ho : oi.op = .alloc 32) (hS : S (w.alloc (.cells #[.int .i64 0, .int .i64 0, .slice none 0 0, .bool false, .bool false, .int .i64 0] 32)))
    (h : wpAnyH Tryz.prog md l.toArray Q S fuel (listed.setIfInBounds i true) (a.put oi.dst (.pointer (some ⟨w.heap.size, 0, none⟩))) (w.alloc (.cells #[.int .i64 0, .int .i64 0, .slice none 0 0, .bool false, .bool false, .int .i64 0] 32))) : wpAnyH Tryz.prog md l.toArray Q S (fuel + 1) listed a w :=
  ready_at i hi hr hw (.inl (by unfold execOp; simp only [ho, alloc_rd w, Sem.run_bind, Sem.run_pure, Result.andThen_ok])) hS h
theorem drew_heap (w : World) : w.drew.heap = w.heap := rfl
/-- Parts are being written. -/
structure SvI (w : World) (a : Ar) (d : Dev) (F : Int) (ys : List Nat) (i : Nat) (wr : World) (D : Dev) (x : RD) (al : Option Addr) (cl : Nat) : Prop where
  tie : Tie D x
  ls : LstS wr al cl x.l
  rs : D.r = 2 ∧ D.s = 12
  lf : 0 ≤ D.left ∧ D.left ≤ 9223372036854775807
  run : wrL d a.g F (chk ys) = wrL D a.g (F + i) (chk (ys.drop (64 * i)))
  dev : wr.heap[w.heap.size]? = some (.cells (rdC x al x.l.length cl) 32 (0, 0))
  ar : ArAtR wr (w.heap.size + 1) a
  out : wr.heap[w.heap.size + 1 + 1]? = some (.cells #[.int .i64 0, .int .i64 0, .slice none 0 0, .bool false, .bool false, .int .i64 0] 32 (0, 0))
  bw : Below w.heap.size w wr
theorem SvI.done {w : World} {a : Ar} {d : Dev} {F : Int} {ys : List Nat} {i : Nat} {wr : World} {D : Dev} {x : RD} {al : Option Addr} {cl : Nat} (h : SvI w a d F ys i wr D x al cl) (hn : ys.drop (64 * i) = []) : wrL d a.g F (chk ys) = (D, 0) := by
  rw [h.run, hn, chk_nil]; rfl
theorem SvI.bad {w : World} {a : Ar} {d : Dev} {F : Int} {ys : List Nat} {i : Nat} {wr : World} {D : Dev} {x : RD} {al : Option Addr} {cl : Nat} (h : SvI w a d F ys i wr D x al cl) (hn : ys.drop (64 * i) ≠ []) (he : wErr D (a.g, F + i) ((ys.drop (64 * i)).take 64).length ≠ 0) :
    wrL d a.g F (chk ys) = (writeD D (a.g, F + i) ((ys.drop (64 * i)).take 64), wErr D (a.g, F + i) ((ys.drop (64 * i)).take 64).length) := by
  rw [h.run, wrL_go hn, if_pos he]
theorem SvI.good {w : World} {a : Ar} {d : Dev} {F : Int} {ys : List Nat} {i : Nat} {wr : World} {D : Dev} {x : RD} {al : Option Addr} {cl : Nat} (h : SvI w a d F ys i wr D x al cl) (hn : ys.drop (64 * i) ≠ []) (he : wErr D (a.g, F + i) ((ys.drop (64 * i)).take 64).length = 0) :
    wrL d a.g F (chk ys) = wrL (writeD D (a.g, F + i) ((ys.drop (64 * i)).take 64)) a.g (F + ((i + 1 : Nat) : Int)) (chk (ys.drop (64 * (i + 1)))) := by
  rw [h.run, wrL_go hn, if_neg (by simpa using he), List.drop_drop, show F + (i : Int) + 1 = F + ((i + 1 : Nat) : Int) by omega, show 64 * i + 64 = 64 * (i + 1) by omega]
/-- A device of the document's is stored in the block that the parts are written of. -/
theorem SvI.next {w : World} {a : Ar} {d : Dev} {F : Int} {ys : List Nat} {i : Nat} {wr U : World} {D : Dev} {x : RD} {al : Option Addr} {cl : Nat} (h : SvI w a d F ys i wr D x al cl) (hb : Below wr.heap.size wr U) (D' : Dev) (x' : RD) (al' : Option Addr) (cl' : Nat) (ht : Tie D' x') (hl : LstS U al' cl' x'.l) (hrs : D'.r = 2 ∧ D'.s = 12) (hlf : 0 ≤ D'.left ∧ D'.left ≤ 9223372036854775807)
    (hrun : wrL d a.g F (chk ys) = wrL D' a.g (F + ((i + 1 : Nat) : Int)) (chk (ys.drop (64 * (i + 1))))) : SvI w a d F ys (i + 1) (U.setRow w.heap.size (rdC x' al' x'.l.length cl')) D' x' al' cl' := by
  have hg := (hb.block _ (blk_lt h.dev)).trans h.dev
  exact ⟨ht, lst_setRow hl hg, hrs, hlf, hrun, setRow_heap U _ _ _ 32 (0, 0) hg, (setRow_other U _ _ _ (by omega)).trans (h.ar.on hb), (setRow_other U _ _ _ (by omega)).trans ((hb.block _ (blk_lt h.out)).trans h.out), below_setRow (below_step h.bw hb) (Nat.le_refl _)⟩
theorem SvI.stop {w : World} {a : Ar} {d : Dev} {F : Int} {ys : List Nat} {i : Nat} {wr U : World} {D : Dev} {x : RD} {al : Option Addr} {cl : Nat} (h : SvI w a d F ys i wr D x al cl) (hb : Below wr.heap.size wr U) (x' : RD) (al' : Option Addr) (cl' : Nat) (hl : LstS U al' cl' x'.l) :
    (U.setRow w.heap.size (rdC x' al' x'.l.length cl')).heap[w.heap.size]? = some (.cells (rdC x' al' x'.l.length cl') 32 (0, 0)) ∧ LstS (U.setRow w.heap.size (rdC x' al' x'.l.length cl')) al' cl' x'.l ∧ (U.setRow w.heap.size (rdC x' al' x'.l.length cl')).heap[w.heap.size + 1 + 1]? = some (.cells #[.int .i64 0, .int .i64 0, .slice none 0 0, .bool false, .bool false, .int .i64 0] 32 (0, 0)) ∧ Below w.heap.size w (U.setRow w.heap.size (rdC x' al' x'.l.length cl')) := by
  have hg := (hb.block _ (blk_lt h.dev)).trans h.dev
  exact ⟨setRow_heap U _ _ _ 32 (0, 0) hg, lst_setRow hl hg, (setRow_other U _ _ _ (by omega)).trans ((hb.block _ (blk_lt h.out)).trans h.out), below_setRow (below_step h.bw hb) (Nat.le_refl _)⟩
/-- Where the next text goes, and its number. -/
theorem next_cases (d : Dev) (a : Ar) : (numA d a 1 ≤ numA d a 0 ∧ 0 < numA d a 0 ∧ begA a (nextH d a) = a.f + a.s / 2) ∨ (numA d a 1 ≤ numA d a 0 ∧ numA d a 0 = 0 ∧ begA a (nextH d a) = a.f) ∨ (numA d a 0 < numA d a 1 ∧ begA a (nextH d a) = a.f) := by
  unfold nextH topA tellA begA
  by_cases h1 : numA d a 1 > numA d a 0
  · refine .inr (.inr ⟨h1, ?_⟩)
    rw [if_pos h1, if_neg (by omega)]
    simp
  · rw [if_neg h1]
    by_cases h2 : numA d a 0 = 0
    · refine .inr (.inl ⟨by omega, h2, ?_⟩)
      rw [if_pos h2]
      simp
    · refine .inl ⟨by omega, by omega, ?_⟩
      rw [if_neg h2]
      simp
theorem next_num (d : Dev) (a : Ar) : IntKind.u64.wrap (max (numA d a 0 : Int) (numA d a 1 : Int) + 1) = (nextN d a : Int) := by
  rw [IntKind.wrap_u64]
  unfold nextN topA tellA
  by_cases h1 : numA d a 1 > numA d a 0
  · rw [if_pos h1, if_neg (by omega)]; omega
  · rw [if_neg h1]
    by_cases h2 : numA d a 0 = 0
    · rw [if_pos h2]; omega
    · rw [if_neg h2]; omega
theorem hm_take (ys : List Nat) (j m : Nat) (hm : m = (ys.drop j).length) : (ys.drop j).take (min m 64) = (ys.drop j).take 64 := by
  by_cases h : 64 ≤ m
  · rw [Nat.min_eq_right h]
  · rw [Nat.min_eq_left (by omega), List.take_of_length_le (by omega), List.take_of_length_le (by omega)]
theorem drop_min (ys : List Nat) (i m : Nat) (hm : m = (ys.drop (64 * i)).length) : ys.drop (64 * i + min m 64) = ys.drop (64 * (i + 1)) := by
  rw [List.length_drop] at hm
  by_cases h : 64 ≤ m
  · rw [Nat.min_eq_right h]; rfl
  · rw [Nat.min_eq_left (by omega), List.drop_eq_nil_of_le (by omega), List.drop_eq_nil_of_le (by omega)]
set_option maxRecDepth 100000 in
set_option maxHeartbeats 8000000 in
theorem rsave_ok {w : World} (x : RD) (al : Option Addr) (cl : Nat) (d : Dev) (a : Ar) (xs : List Nat) (h : Rdv w x al cl d) (hr : inR a) (hrs : d.r = 2 ∧ d.s = 12) (hlf : 0 ≤ d.left ∧ d.left ≤ 9223372036854775807) (hx : ∀ y ∈ xs, y < 256) (he : lookE d a = 0) (hlong : ¬ roomA a < xs.length) :
    Calls Tryz.prog 16 #[rdV x al cl, arV a, .string (bs xs)] w (RSvTo w d a xs) := by
  have HB : Hid (∀ V, Below w.heap.size w V → Calls Tryz.prog 10 #[rdV x al cl, arV a] V fun e w' => e = .returned (.tuple #[.int .u64 (bN d a 0 : Nat), .string (bs (bT d a 0)), .int .u64 (bN d a 1 : Nat), .string (bs (bT d a 1)), .int .i64 (lookE d a : Nat)]) ∧ Below V.heap.size V w') := fun V hV => rboth_ x al cl d a (h.on hV) hr
  have HRm : Hid (∀ V, Calls Tryz.prog 13 #[arV a] V fun e w' => e = .returned (.int .i64 (roomA a)) ∧ Below V.heap.size V w') := fun V => rroom_ a V hr.2.2
  have hin : inA d a := by
    unfold lookE at he
    split at he
    · cases he
    · rename_i hh; exact Decidable.not_not.1 hh
  have hbn : bN d a 0 = numA d a 0 ∧ bN d a 1 = numA d a 1 := by unfold bN; simp [he]
  have hrb := room_bound a
  have hN := nextN_lt d a
  have hlb := laid_bound (n := nextN d a) (xs := xs) hN (by omega)
  have hbeg : 0 ≤ begA a (nextH d a) ∧ begA a (nextH d a) ≤ 16384 := by
    obtain ⟨q1, q2⟩ := inA_half hin (nextH d a) (nextH_lt d a)
    have h4 := (q2 0 (by have := hin.2.2.2.1; omega)).2.2.2
    have h4' : begA a (nextH d a) + ((0 : Nat) : Int) < d.s := h4
    omega
  have hcs := next_cases d a
  have hnn := next_num d a
  have HW1 : Hid (∀ D er, wroteD d a xs = (D, er) → er ≠ 0 → saveD d a xs = D ∧ saveE d a xs = er) := fun D er e he' => by
    unfold saveD saveE
    rw [e, if_neg (by rintro (q | q); exact q he; exact hlong q), if_pos he', if_neg (by simpa using he), if_neg hlong, if_pos he']
    exact ⟨rfl, rfl⟩
  have HW2 : Hid (∀ D, wroteD d a xs = (D, 0) → saveD d a xs = syncD D a.g ∧ saveE d a xs = sErr D a.g) := fun D e => by
    unfold saveD saveE
    rw [e, if_neg (by rintro (q | q); exact q he; exact hlong q), if_neg (by simp), if_neg (by simpa using he), if_neg hlong, if_neg (by simp)]
    exact ⟨rfl, rfl⟩
  have HE2 : Hid (∀ D er, wrL d a.g (begA a (nextH d a)) (chk (laidB (nextN d a) xs)) = (D, er) → er ≠ 0 → saveD d a xs = D ∧ saveE d a xs = er) := fun D er e he' => HW1.out D er e he'
  have HE1 : Hid (∀ D, wrL d a.g (begA a (nextH d a)) (chk (laidB (nextN d a) xs)) = (D, 0) → saveD d a xs = syncD D a.g ∧ saveE d a xs = sErr D a.g) := fun D e => HW2.out D e
  have HU : Hid (∀ V, Calls Tryz.prog 36 #[.int .u64 (nextN d a : Nat)] V (Laid V (enc (nextN d a)))) := fun V => uints_ _ V hN
  have HT : Hid (∀ V, Calls Tryz.prog 37 #[.string (bs xs)] V (Laid V (enc xs.length ++ xs))) := fun V => by
    have := texts_ (bs xs) V (by rw [bs_size]; omega)
    rw [bs_size, sb_bs' xs hx] at this
    exact this
  have hl1 := enc_le10 (nextN d a) hN
  have hl2 := enc_le10 xs.length (by omega)
  have hBd : enc (nextN d a) ++ (enc xs.length ++ xs) = bodyB (nextN d a) xs := by simp [bodyB]
  have HS : Hid (∀ V ma mc, BytesIn V ma (bodyB (nextN d a) xs) → (ma = none → mc = 0) → Calls Tryz.prog 35 #[.slice ma (bodyB (nextN d a) xs).length mc] V (Made V (laidB (nextN d a) xs))) := fun V ma mc hV hm => rseal_ ma (bodyB (nextN d a) xs) mc V hV (bodyB_byte hx) hm (by rw [← hBd]; simp; omega)
  have HLn : Hid ((enc (nextN d a)).length + (enc xs.length ++ xs).length ≤ 1000000) := by show _ ≤ _; rw [List.length_append]; omega
  have hYb : ∀ y ∈ laidB (nextN d a) xs, y < 256 := laidB_byte hx
  have HBd := Lib.hid hBd
  have hrdV : rdV x al cl = .agg #[.int .i64 x.r, .int .i64 x.s, .slice al x.l.length cl, .bool x.crashed, .bool x.armed, .int .i64 x.left] := rfl
  rw [hrdV, he, hbn.1, hbn.2] at HB
  rw [hrdV]
  obtain ⟨W, hW⟩ : ∃ W, W = ((w.alloc (.cells #[.int .i64 x.r, .int .i64 x.s, .slice al x.l.length cl, .bool x.crashed, .bool x.armed, .int .i64 x.left] 32)).alloc (.cells #[.int .i64 a.g, .int .i64 a.f, .int .i64 a.s] 23)).alloc (.cells #[.int .i64 0, .int .i64 0, .slice none 0 0, .bool false, .bool false, .int .i64 0] 32) := ⟨_, rfl⟩
  have HX : Hid (SvI w a d (begA a (nextH d a)) (laidB (nextN d a) xs) 0 W d x al cl) := by
    have hbW : Below w.heap.size w W := by rw [hW]; exact below3w w _ _ _
    refine ⟨h.tie, h.ls.on hbW, hrs, hlf, by simp, ?_, ?_, ?_, hbW⟩
    · rw [hW]; exact (heap3w w _ _ _).1
    · rw [hW]; exact (heap3w w _ _ _).2.1
    · rw [hW]; exact (heap3w w _ _ _).2.2
  have HW := Lib.hid hW
  have HLm : Hid (a.s / 2 ≤ 8192 ∧ 0 ≤ a.f ∧ a.f ≤ 16384 ∧ 2 ≤ a.s ∧ a.s ≤ 16384) := by have := h.lim; obtain ⟨_, _, _, _, _, _⟩ := hin; exact ⟨by omega, by omega, by omega, by omega, by omega⟩
  have HYb := Lib.hid hYb
  have HRs := Lib.hid hrs
  clear hW h hr hrdV hbn hBd hYb HW1 HW2 hin hrs hlf hx he
  have hsz : (bs xs).size = xs.length := bs_size xs
  have e1 : a.s.tdiv 2 = a.s / 2 := Int.tdiv_eq_ediv_of_nonneg (by have := HLm.out; omega)
  generalize numA d a 0 = n0 at *
  generalize numA d a 1 = n1 at *
  generalize bT d a 0 = t0 at *
  generalize bT d a 1 = t1 at *
  generalize x.r = xr at *
  generalize x.s = xs' at *
  generalize x.crashed = xc at *
  generalize x.armed = xa at *
  generalize x.left = xf at *
  generalize roomA a = R at *
  generalize laidB (nextN d a) xs = ys at *
  generalize bodyB (nextN d a) xs = bo at *
  generalize enc (nextN d a) = es at *
  generalize enc xs.length ++ xs = ts at *
  generalize begA a (nextH d a) = F at *
  generalize nextN d a = N at *
  generalize hnl : xs.length = n at *
  generalize hSS : bs xs = SS at *
  have hgt : ¬ (n : Int) > R := by omega
  obtain ⟨g, f, s⟩ := a
  unfold arV at *
  dsimp only at *
  generalize hxl : x.l.length = L at *
  generalize hq : s / 2 = q at *
  have hlm := HLm.out
  have wq := wraps_i64 (f + q) (by omega) (by omega)
  have wq2 := wraps_i64 q (by omega) (by omega)
  clear hq hl1 hl2 hN hrb hlong
  have hcF : (n1 ≤ n0 ∧ 0 < n0 ∧ F = f + q) ∨ (n1 ≤ n0 ∧ ¬ 0 < n0 ∧ F = f) ∨ (¬ n1 ≤ n0 ∧ F = f) := by
    rcases hcs with ⟨q1, q2, q3⟩ | ⟨q1, q2, q3⟩ | ⟨q1, q3⟩
    · exact .inl ⟨q1, q2, q3⟩
    · exact .inr (.inl ⟨q1, by omega, q3⟩)
    · exact .inr (.inr ⟨by omega, q3⟩)
  clear hcs
  go_enter Tryz.func16, Tryz.ntmps16
  go_wp2_with fail
  rw [← HW.out]
  refine (HB.out W HX.out.bw).mono ?_
  rintro e w1 ⟨rfl, hb1⟩
  have HB1 := Lib.hid hb1
  obtain ⟨y0, y1, y2⟩ := (HX.out.ar.on hb1).cells
  dsimp only at y0 y1 y2
  clear hb1 HB HW
  go_wp2_with fail
  refine (HRm.out w1).mono ?_
  rintro e w2 ⟨rfl, hb2⟩
  have HB2 := Lib.hid (below_step HB1.out hb2)
  clear hb2 HRm y0 y1 y2
  obtain ⟨y0, y1, y2⟩ := (HX.out.ar.on HB2.out).cells
  dsimp only at y0 y1 y2
  rcases hcF with ⟨u1, u2, hFq⟩ | ⟨u1, u2, hFq⟩ | ⟨u1, hFq⟩
  all_goals
    first | (have wq' : IntKind.i64.wrap (f + q) = F := by rw [wq, hFq]
             clear hFq) | (rw [← hFq] at y1; clear hFq)
    clear wq
    go_wp2_with fail
    refine (HU.out w2).mono ?_
    rintro e w3 ⟨g3, c3, rfl, ho3, hb3⟩
    have HO3 := Lib.hid ho3
    have HB3 := Lib.hid hb3
    clear ho3 hb3 HU
    generalize hel : es.length = el at *
    go_wp2_with fail
    refine (HT.out w3).mono ?_
    rintro e w4 ⟨g4, c4, rfl, ho4, hb4⟩
    have HO4 := Lib.hid (And.intro (HO3.out.on hb4) (And.intro ho4.cells.2.1 (below_step HB3.out hb4)))
    clear ho4 hb4 HT HO3 HB3
    go_wp2_with (first
      | (at_builtin; refine wpList_append_bytes _ rfl _ _ rfl w2.heap.size _ es ts rfl HO4.out.1 (some ⟨g4, 0, none⟩) ts.length c4 rfl rfl (fun hh => by cases hh) HO4.out.2.1 (by have := HLn.out; omega) HO4.out.2.2.size ?_
         intro v5 w5 hown5 hgrow5
         have hb5 := below_grow HO4.out.2.2 HO4.out.1 hgrow5
         rw [HBd.out] at hown5
         obtain ⟨a5, c5, rfl, hby5, hn5⟩ := hown5.bytes
         have H5 := Lib.hid (And.intro hby5 (And.intro hn5 hb5))
         clear hown5 hgrow5 hb5 hby5 hn5 HO4)
      | fail)
    refine (HS.out w5 a5 c5 H5.out.1 H5.out.2.1).mono ?_
    rintro e w6 ⟨a6, c6, rfl, ho6, hby6, hn6, hb6⟩
    have hcv : (convert 37 9 (.slice a6 ys.length c6)).run Tryz.prog w6 = .ok (.string (bs ys)) w6 := conv_ w6 a6 _ c6 ys rfl hby6
    have H6 := Lib.hid (below_step (below_step HB2.out H5.out.2.2) hb6)
    clear hby6 hn6 hb6 H5 HS ho6
    generalize hYL : ys.length = YL at *
    go_wp2_with fail
    have H0 : Hid (SvI w ⟨g, f, s⟩ d F ys 0 w6 d x al cl) := ⟨HX.out.tie, HX.out.ls.on H6.out, HX.out.rs, HX.out.lf, HX.out.run, (H6.out.block _ (blk_lt HX.out.dev)).trans HX.out.dev, HX.out.ar.on H6.out, (H6.out.block _ (blk_lt HX.out.out)).trans HX.out.out, below_step HX.out.bw H6.out⟩
    clear hcv H6 HX y0 y1 y2 HB1 HB2
    go_loopw [14, 15] (fun bv iv wr => ∃ (i : Nat) (D : Dev) (x : RD) (al : Option Addr) (cl : Nat), bv = .string (bs (ys.drop (64 * i))) ∧ iv = .int .i64 i ∧ i ≤ YL ∧ Hid (SvI w ⟨g, f, s⟩ d F ys i wr D x al cl)) (fun _ iv _ => YL + 1 - (intOf iv).toNat)
    case atStart => exact ⟨0, _, _, _, _, by simp, rfl, by omega, H0⟩
    case round =>
      clear H0
      obtain ⟨i, D, x, al, cl, rfl, rfl, hiY, HI⟩ := hrel
      obtain ⟨y0, y1, y2⟩ := HI.out.ar.cells
      dsimp only at y0 y1 y2
      by_cases hne : ys.drop (64 * i) = []
      · have hz : (bs (ys.drop (64 * i))).size = 0 := by rw [bs_size, hne]; rfl
        obtain ⟨hZ1, hZ2⟩ := HE1.out D (HI.out.done hne)
        have hlen := tie_len HI.out.tie HI.out.rs
        have HSy := Lib.hid (rsyncT x D g HI.out.ls HI.out.tie (by rw [HI.out.rs.2]; omega) (by omega))
        have hTs := tie_sync HI.out.tie g
        generalize bs (ys.drop (64 * i)) = S1 at *
        obtain ⟨r, s9, l, cr, ar, lf⟩ := x
        have HL3 := Lib.hid (load_rd HI.out.dev rfl)
        unfold rdC at HL3
        unfold rdV rdC at HSy
        dsimp only at HL3 HSy
        generalize hX : syncRD ⟨r, s9, l, cr, ar, lf⟩ D g = X' at *
        clear hX hlen
        generalize l.length = L1 at *
        go_wp2_with (first | (refine wpList_load_at rfl 32 _ rfl _ _ rfl HL3.out ?_) | fail)
        refine HSy.out.mono ?_
        rintro e w7 ⟨⟨a7, c7, rfl, hl7⟩, hb7⟩
        have hg7 := (hb7.block _ (blk_lt HI.out.out)).trans HI.out.out
        have hF := rsv_end (w := w) (d := d) (a := ⟨g, f, s⟩) (xs := xs) hl7 (by rw [hZ1]; exact hTs) (below_step HI.out.bw hb7) hg7 (by omega)
        rw [hZ2] at hF
        obtain ⟨r', s', l', cr', ar', lf'⟩ := X'
        unfold rdV rdC at hF
        dsimp only at hF ⊢
        have HF := Lib.hid hF
        have HSt6 := Lib.hid (store_rd (cs := #[.int .i64 r', .int .i64 s', .slice a7 l'.length c7, .bool cr', .bool ar', .int .i64 lf']) hg7 rfl rfl (six_one _ _ _ _ _ _ _ _))
        clear HI hTs hZ1 hZ2 hl7 hb7 hg7 hF HSy HL3
        generalize sErr D g = E at *
        generalize l'.length = L' at *
        go_wp2_with (first | (refine wpList_store_at rfl 32 _ _ rfl _ _ rfl rfl HSt6.out ?_) | fail)
        exact bodyPost_ret (results_rd rfl _ _ (w.heap.size + 1 + 1) _ (.int .i64 (E : Nat)) rfl rfl HF.out.1 rfl) rfl HF.out.2
      · obtain ⟨m, hm⟩ : ∃ m, m = (ys.drop (64 * i)).length := ⟨_, rfl⟩
        have hmp : 0 < m := by rw [hm]; exact List.length_pos_iff.2 hne
        have hiL : 64 * i < YL := by rw [List.length_drop] at hm; omega
        obtain ⟨k, hk⟩ : ∃ k, k = min m 64 := ⟨_, rfl⟩
        have hkk : min (m : Int) 64 = (k : Int) := by omega
        obtain ⟨P, hP⟩ : ∃ P, P = (ys.drop (64 * i)).take 64 := ⟨_, rfl⟩
        have HP := Lib.hid hP.symm
        have hm0 : (m : Int) > 0 := by omega
        have hsz : (bs (ys.drop (64 * i))).size = m := by rw [bs_size, hm]
        have hex : (bs (ys.drop (64 * i))).extract 0 k = bs P := by
          rw [bs_take, hP, hk, ← hm_take ys (64 * i) m hm]
        have hex2 : (bs (ys.drop (64 * i))).extract k m = bs (ys.drop (64 * (i + 1))) := by
          have := bs_drop (ys.drop (64 * i)) k
          rw [hsz] at this
          rw [this, List.drop_drop, hk, drop_min ys i m (by rw [hm])]
        have hkm : k ≤ m := by omega
        have hPb : ∀ y ∈ P, y < 256 := fun y hy => HYb.out y (List.mem_of_mem_drop (List.mem_of_mem_take (by rw [hP] at hy; exact hy)))
        have hlen := tie_len HI.out.tie HI.out.rs
        have hSt : ∀ V, Below wr.heap.size wr V → Calls Tryz.prog 18 #[rdV x al cl, .int .i64 g, .int .i64 (F + i), .string (bs P)] V fun e w' => (∃ a' c', e = .returned (.tuple #[rdV (writeR x D (g, F + i) P) a' c', .int .i64 (wErr D (g, F + i) P.length : Nat)]) ∧ LstS w' a' c' (writeR x D (g, F + i) P).l) ∧ Below V.heap.size V w' := fun V hV => rwrite_ x D (g, F + i) P (HI.out.ls.on hV) HI.out.tie hPb (by omega)
        have hTw : Tie (writeD D (g, F + i) P) (writeR x D (g, F + i) P) := tie_write HI.out.tie hPb HI.out.lf
        have wFi := wraps_i64 (F + i) (by omega) (by omega)
        have hdevx := HI.out.dev
        have FG : Hid (∀ V, Below wr.heap.size wr V → V.cell? ⟨w.heap.size + 1, 0, none⟩ = some (.int .i64 g)) := fun V hV => (HI.out.ar.on hV).cells.1
        have HDr := Lib.hid hex2
        generalize hbP : bs P = PP at *
        generalize hbS : bs (ys.drop (64 * i)) = S1 at *
        generalize hbT : bs (ys.drop (64 * (i + 1))) = S2 at *
        obtain ⟨r, s9, l, cr, ar, lf⟩ := x
        have hrdx : rdV ⟨r, s9, l, cr, ar, lf⟩ al cl = .agg #[.int .i64 r, .int .i64 s9, .slice al l.length cl, .bool cr, .bool ar, .int .i64 lf] := rfl
        have GL : Hid (∀ U, Below wr.heap.size wr U → (Instr.loadAt 32 (.pointer (some ⟨w.heap.size, 0, none⟩))).run Tryz.prog U = .ok (.agg #[.int .i64 r, .int .i64 s9, .slice al l.length cl, .bool cr, .bool ar, .int .i64 lf]) U) := fun U hU => load_rd ((hU.block _ (blk_lt HI.out.dev)).trans HI.out.dev) rfl
        have HSt := Lib.hid hSt
        rw [hrdx] at HSt
        generalize hX : writeR ⟨r, s9, l, cr, ar, lf⟩ D (g, F + i) P = X' at *
        clear hX hSt hrdx hdevx hlen hPb hP hk hm
        generalize l.length = L1 at *
        go_wp2_with fail
        refine wp_region_noPanic ?_
        refine wp_region_held_drew (S := fun V => Below wr.heap.size wr V) (by kernel_rfl) (below_drew _) (fun hHeld => ?_)
        refine take_at 0 (.agg #[.int .i64 r, .int .i64 s9, .slice al L1 cl, .bool cr, .bool ar, .int .i64 lf]) rfl (by kernel_rfl) (by kernel_rfl) (by kernel_rfl) (fun _ _ _ h => h) (yields_load (by rfl) 32 _ (by rfl) _ _ (by rfl) (GL.out)) (by assumption) ?_
        simp only [Act.put, List.setIfInBounds_toArray, List.set_cons_zero, List.set_cons_succ]
        refine take_at 1 (.pointer (some ⟨w.heap.size + 1, 0, none⟩)) rfl (by kernel_rfl) (by kernel_rfl) (by kernel_rfl) (fun _ _ _ h => h) (Or.inl ⟨by rfl, ?_⟩) (by assumption) ?_
        · intro V hSV; go_simp
        simp only [Act.put, List.setIfInBounds_toArray, List.set_cons_zero, List.set_cons_succ]
        refine take_at 2 (.int .i64 g) rfl (by kernel_rfl) (by kernel_rfl) (by kernel_rfl) (fun _ _ _ h => h) (Or.inl ⟨by rfl, ?_⟩) (by assumption) ?_
        · intro V hSV; have e0 := FG.out V hSV; go_simp
        simp only [Act.put, List.setIfInBounds_toArray, List.set_cons_zero, List.set_cons_succ]
        refine take_at 3 (.int .i64 F) rfl (by kernel_rfl) (by kernel_rfl) (by kernel_rfl) (fun _ _ _ h => h) (Or.inl ⟨by rfl, ?_⟩) (by assumption) ?_
        · intro V hSV; go_simp
        simp only [Act.put, List.setIfInBounds_toArray, List.set_cons_zero, List.set_cons_succ]
        refine take_at 4 (.int .i64 i) rfl (by kernel_rfl) (by kernel_rfl) (by kernel_rfl) (fun _ _ _ h => h) (Or.inl ⟨by rfl, ?_⟩) (by assumption) ?_
        · intro V hSV; go_simp
        simp only [Act.put, List.setIfInBounds_toArray, List.set_cons_zero, List.set_cons_succ]
        refine take_at 5 (.int .i64 (F + i)) rfl (by kernel_rfl) (by kernel_rfl) (by kernel_rfl) (fun _ _ _ h => h) (Or.inl ⟨by rfl, ?_⟩) (by assumption) ?_
        · intro V hSV; go_simp
        simp only [Act.put, List.setIfInBounds_toArray, List.set_cons_zero, List.set_cons_succ]
        refine take_at 6 (.string S1) rfl (by kernel_rfl) (by kernel_rfl) (by kernel_rfl) (fun _ _ _ h => h) (Or.inl ⟨by rfl, ?_⟩) (by assumption) ?_
        · intro V hSV; go_simp
        simp only [Act.put, List.setIfInBounds_toArray, List.set_cons_zero, List.set_cons_succ]
        refine take_at 7 (.int .i64 k) rfl (by kernel_rfl) (by kernel_rfl) (by kernel_rfl) (fun _ _ _ h => h) (Or.inl ⟨by rfl, ?_⟩) (by assumption) ?_
        · intro V hSV; go_simp
        simp only [Act.put, List.setIfInBounds_toArray, List.set_cons_zero, List.set_cons_succ]
        refine take_at 8 (.string PP) rfl (by kernel_rfl) (by kernel_rfl) (by kernel_rfl) (fun _ _ _ h => h) (Or.inl ⟨by rfl, ?_⟩) (by assumption) ?_
        · intro V hSV; go_simp
        simp only [Act.put, List.setIfInBounds_toArray, List.set_cons_zero, List.set_cons_succ]
        refine wpAnyH_ready (rs := [9, 13]) (by kernel_rfl) (by simp) ?_
        refine AllReadyH.cons rfl (fun KK hK => ?_) (AllReadyH.cons rfl (fun KK hK => ?_) AllReadyH.nil)
        · go_simp
          go_wp2_with (first | (go_at_call 18; refine (HSt.out _ (below_drew _)).mono ?_; rintro e U2 ⟨⟨a', c', rfl, hL2⟩, hb2⟩))
          refine hK.out _ _ ?_ (fun hHeld9 => ?_)
          · exact below_step (below_drew _) hb2
          clear hK KK
          obtain ⟨r', s', l', cr', ar', lf'⟩ := X'
          unfold rdV rdC
          dsimp only at hTw hL2 ⊢
          generalize hL' : l'.length = L' at *
          have HT2 := Lib.hid (And.intro hTw hL')
          clear hTw hL'
          have hS13 : Below wr.heap.size wr (U2.alloc (.cells #[.int .i64 0, .int .i64 0, .slice none 0 0, .bool false, .bool false, .int .i64 0] 32)) := below_step hHeld9 (below_alloc _ _)
          have hz := alloc_at U2 (.cells #[.int .i64 0, .int .i64 0, .slice none 0 0, .bool false, .bool false, .int .i64 0] 32)
          have hst := store_rd (cs := #[.int .i64 r', .int .i64 s', .slice a' L' c', .bool cr', .bool ar', .int .i64 lf']) hz rfl rfl (six_one _ _ _ _ _ _ _ _)
          have hS14 : Below wr.heap.size wr ((U2.alloc (.cells #[.int .i64 0, .int .i64 0, .slice none 0 0, .bool false, .bool false, .int .i64 0] 32)).setRow U2.heap.size #[.int .i64 r', .int .i64 s', .slice a' L' c', .bool cr', .bool ar', .int .i64 lf']) := below_setRow hS13 hHeld9.size
          have HU : Hid (((U2.alloc (.cells #[.int .i64 0, .int .i64 0, .slice none 0 0, .bool false, .bool false, .int .i64 0] 32)).setRow U2.heap.size #[.int .i64 r', .int .i64 s', .slice a' L' c', .bool cr', .bool ar', .int .i64 lf']).heap[U2.heap.size]? = some (.cells #[.int .i64 r', .int .i64 s', .slice a' L' c', .bool cr', .bool ar', .int .i64 lf'] 32 (0, 0)) ∧ Below wr.heap.size wr ((U2.alloc (.cells #[.int .i64 0, .int .i64 0, .slice none 0 0, .bool false, .bool false, .int .i64 0] 32)).setRow U2.heap.size #[.int .i64 r', .int .i64 s', .slice a' L' c', .bool cr', .bool ar', .int .i64 lf']) ∧ LstS ((U2.alloc (.cells #[.int .i64 0, .int .i64 0, .slice none 0 0, .bool false, .bool false, .int .i64 0] 32)).setRow U2.heap.size #[.int .i64 r', .int .i64 s', .slice a' L' c', .bool cr', .bool ar', .int .i64 lf']) a' c' l') := ⟨setRow_heap _ _ _ _ 32 (0, 0) hz, hS14, lst_setRow (hL2.on (below_alloc U2 _)) hz⟩
          clear hz hL2 hb2
          refine take_at 10 (.tuple #[.agg #[.int .i64 r', .int .i64 s', .slice a' L' c', .bool cr', .bool ar', .int .i64 lf'], .int .i64 (wErr D (g, F + i) P.length : Nat)]) rfl (by kernel_rfl) (by kernel_rfl) (by kernel_rfl) (fun _ _ _ h => h) (Or.inl ⟨by rfl, ?_⟩) (by assumption) ?_
          · intro V hSV; go_simp
          simp only [Act.put, List.setIfInBounds_toArray, List.set_cons_zero, List.set_cons_succ]
          refine take_at 11 (.agg #[.int .i64 r', .int .i64 s', .slice a' L' c', .bool cr', .bool ar', .int .i64 lf']) rfl (by kernel_rfl) (by kernel_rfl) (by kernel_rfl) (fun _ _ _ h => h) (Or.inl ⟨by rfl, ?_⟩) (by assumption) ?_
          · intro V hSV; go_simp
          simp only [Act.put, List.setIfInBounds_toArray, List.set_cons_zero, List.set_cons_succ]
          refine take_at 12 (.int .i64 (wErr D (g, F + i) P.length : Nat)) rfl (by kernel_rfl) (by kernel_rfl) (by kernel_rfl) (fun _ _ _ h => h) (Or.inl ⟨by rfl, ?_⟩) (by assumption) ?_
          · intro V hSV; go_simp
          simp only [Act.put, List.setIfInBounds_toArray, List.set_cons_zero, List.set_cons_succ]
          refine ready_alloc_rd 13 rfl (by kernel_rfl) (by rfl) (by rfl) hS13 ?_
          refine ready_store 14 rfl (by kernel_rfl) (by rfl) 32 _ _ (by rfl) _ _ (by rfl) (by rfl) hst hS14 ?_
          refine take_at 15 (.int .i64 (wErr D (g, F + i) P.length : Nat)) rfl (by kernel_rfl) (by kernel_rfl) (by kernel_rfl) (fun _ _ _ h => h) (Or.inl ⟨by rfl, ?_⟩) (by assumption) ?_
          · intro V hSV; go_simp
          simp only [Act.put, List.setIfInBounds_toArray, List.set_cons_zero, List.set_cons_succ]
          refine wpAnyH_done (by kernel_rfl) ?_ _
          refine NoPanic.normal ?_
          clear hst hS14 hS13 hHeld hHeld9
          generalize (U2.alloc (.cells #[.int .i64 0, .int .i64 0, .slice none 0 0, .bool false, .bool false, .int .i64 0] 32)).setRow U2.heap.size #[.int .i64 r', .int .i64 s', .slice a' L' c', .bool cr', .bool ar', .int .i64 lf'] = U5 at *
          generalize U2.heap.size = B10 at *
          have hg10 := HU.out.1
          have HL10 := Lib.hid (load_rd hg10 rfl)
          have HSt3 := Lib.hid (store_rd (cs := #[.int .i64 r', .int .i64 s', .slice a' L' c', .bool cr', .bool ar', .int .i64 lf']) ((HU.out.2.1.block _ (blk_lt HI.out.dev)).trans HI.out.dev) rfl rfl (six_one _ _ _ _ _ _ _ _))
          have HNx := Lib.hid (HI.out.stop HU.out.2.1 ⟨r', s', l', cr', ar', lf'⟩ a' c' HU.out.2.2)
          have HNy : Hid (wErr D (g, F + i) P.length = 0 → SvI w ⟨g, f, s⟩ d F ys (i + 1) (U5.setRow w.heap.size #[.int .i64 r', .int .i64 s', .slice a' L' c', .bool cr', .bool ar', .int .i64 lf']) (writeD D (g, F + i) P) ⟨r', s', l', cr', ar', lf'⟩ a' c') := fun he0 => by
            have := HI.out.next HU.out.2.1 (writeD D (g, F + i) P) ⟨r', s', l', cr', ar', lf'⟩ a' c' HT2.out.1 HU.out.2.2 ⟨(size_write _ _ _).1.trans HI.out.rs.1, (size_write _ _ _).2.trans HI.out.rs.2⟩ (left_write _ _ HI.out.lf) (by have := HI.out.good hne (by rw [HP.out]; exact he0); rw [HP.out] at this; exact this)
            unfold rdC at this
            dsimp only at this
            rw [HT2.out.2] at this
            exact this
          have HNz : Hid (wErr D (g, F + i) P.length ≠ 0 → saveD d ⟨g, f, s⟩ xs = writeD D (g, F + i) P ∧ saveE d ⟨g, f, s⟩ xs = wErr D (g, F + i) P.length) := fun he0 => HE2.out _ _ (by have := HI.out.bad hne (by rw [HP.out]; exact he0); rw [HP.out] at this; exact this) he0
          unfold rdC at HNx
          dsimp only at HNx
          rw [HT2.out.2] at HNx
          generalize wErr D (g, F + i) P.length = E at *
          by_cases hE0 : E = 0
          · subst hE0
            have HS1 := Lib.hid (HNy.out rfl)
            clear hg10 HNy HNz HNx HI HU HSt GL FG
            go_wp2_with (first | (refine wpList_load_at rfl 32 _ rfl _ _ rfl HL10.out ?_) | (refine wpList_store_at rfl 32 _ _ rfl _ _ rfl rfl HSt3.out ?_) | fail)
            exact ⟨⟨i + 1, _, _, _, _, by rw [hbT], by go_num, by omega, HS1⟩, by simp [intOf]; omega⟩
          · have hE1 : ((E : Int) == 0) = false := by simp; omega
            obtain ⟨hZ1, hZ2⟩ := HNz.out hE0
            have HL3 := Lib.hid (load_rd HNx.out.1 rfl)
            have HSt6 := Lib.hid (store_rd (cs := #[.int .i64 r', .int .i64 s', .slice a' L' c', .bool cr', .bool ar', .int .i64 lf']) HNx.out.2.2.1 rfl rfl (six_one _ _ _ _ _ _ _ _))
            have hF := rsv_end (w := w) (d := d) (a := ⟨g, f, s⟩) (xs := xs) (x := ⟨r', s', l', cr', ar', lf'⟩) HNx.out.2.1 (by rw [hZ1]; exact HT2.out.1) HNx.out.2.2.2 HNx.out.2.2.1 (by omega)
            unfold rdV rdC at hF
            dsimp only at hF
            rw [HT2.out.2, hZ2] at hF
            have HF := Lib.hid hF
            clear hg10 HNy HNz HNx HI HU HSt GL FG hF hZ1 hZ2
            go_wp2_with (first | (refine wpList_load_at rfl 32 _ rfl _ _ rfl HL10.out ?_) | (refine wpList_store_at rfl 32 _ _ rfl _ _ rfl rfl HSt3.out ?_) | (refine wpList_load_at rfl 32 _ rfl _ _ rfl HL3.out ?_) | (refine wpList_store_at rfl 32 _ _ rfl _ _ rfl rfl HSt6.out ?_) | fail)
            exact bodyPost_ret (results_rd rfl _ _ (w.heap.size + 1 + 1) _ (.int .i64 (E : Nat)) rfl rfl HF.out.1 rfl) rfl HF.out.2
        · go_simp
          have hBz : Below wr.heap.size wr (wr.alloc (.cells #[.int .i64 0, .int .i64 0, .slice none 0 0, .bool false, .bool false, .int .i64 0] 32)).drew := below_step (below_alloc _ _) (below_drew _)
          refine hK.out _ _ ?_ (fun hHeld13 => ?_)
          · exact hBz
          clear hK KK
          have hz13 : ((wr.alloc (.cells #[.int .i64 0, .int .i64 0, .slice none 0 0, .bool false, .bool false, .int .i64 0] 32)).drew).heap[wr.heap.size]? = some (.cells #[.int .i64 0, .int .i64 0, .slice none 0 0, .bool false, .bool false, .int .i64 0] 32 (0, 0)) := by rw [drew_heap]; exact alloc_at wr _
          have HSz := Lib.hid (HSt.out _ hBz)
          have HBz := Lib.hid (And.intro hBz hz13)
          clear hBz hz13
          generalize (wr.alloc (.cells #[.int .i64 0, .int .i64 0, .slice none 0 0, .bool false, .bool false, .int .i64 0] 32)).drew = Uz at *
          refine wpAnyH_ready (rs := [9]) (by kernel_rfl) (by simp) ?_
          refine AllReadyH.cons rfl (fun KK hK => ?_) AllReadyH.nil
          go_simp
          go_wp2_with (first | (go_at_call 18; refine HSz.out.mono ?_; rintro e U2 ⟨⟨a', c', rfl, hL2⟩, hb2⟩))
          refine hK.out _ _ ?_ (fun hHeld9 => ?_)
          · exact below_step HBz.out.1 hb2
          clear hK KK
          obtain ⟨r', s', l', cr', ar', lf'⟩ := X'
          unfold rdV rdC
          dsimp only at hTw hL2 ⊢
          generalize hL' : l'.length = L' at *
          have HT2 := Lib.hid (And.intro hTw hL')
          clear hTw hL'
          have hz := (hb2.block _ (blk_lt HBz.out.2)).trans HBz.out.2
          have hst := store_rd (cs := #[.int .i64 r', .int .i64 s', .slice a' L' c', .bool cr', .bool ar', .int .i64 lf']) hz rfl rfl (six_one _ _ _ _ _ _ _ _)
          have hS14 : Below wr.heap.size wr (U2.setRow wr.heap.size #[.int .i64 r', .int .i64 s', .slice a' L' c', .bool cr', .bool ar', .int .i64 lf']) := below_setRow hHeld9 (Nat.le_refl _)
          have HU : Hid ((U2.setRow wr.heap.size #[.int .i64 r', .int .i64 s', .slice a' L' c', .bool cr', .bool ar', .int .i64 lf']).heap[wr.heap.size]? = some (.cells #[.int .i64 r', .int .i64 s', .slice a' L' c', .bool cr', .bool ar', .int .i64 lf'] 32 (0, 0)) ∧ Below wr.heap.size wr (U2.setRow wr.heap.size #[.int .i64 r', .int .i64 s', .slice a' L' c', .bool cr', .bool ar', .int .i64 lf']) ∧ LstS (U2.setRow wr.heap.size #[.int .i64 r', .int .i64 s', .slice a' L' c', .bool cr', .bool ar', .int .i64 lf']) a' c' l') := ⟨setRow_heap _ _ _ _ 32 (0, 0) hz, hS14, lst_setRow hL2 hz⟩
          clear hz hL2 hb2 HBz HSz
          refine take_at 10 (.tuple #[.agg #[.int .i64 r', .int .i64 s', .slice a' L' c', .bool cr', .bool ar', .int .i64 lf'], .int .i64 (wErr D (g, F + i) P.length : Nat)]) rfl (by kernel_rfl) (by kernel_rfl) (by kernel_rfl) (fun _ _ _ h => h) (Or.inl ⟨by rfl, ?_⟩) (by assumption) ?_
          · intro V hSV; go_simp
          simp only [Act.put, List.setIfInBounds_toArray, List.set_cons_zero, List.set_cons_succ]
          refine take_at 11 (.agg #[.int .i64 r', .int .i64 s', .slice a' L' c', .bool cr', .bool ar', .int .i64 lf']) rfl (by kernel_rfl) (by kernel_rfl) (by kernel_rfl) (fun _ _ _ h => h) (Or.inl ⟨by rfl, ?_⟩) (by assumption) ?_
          · intro V hSV; go_simp
          simp only [Act.put, List.setIfInBounds_toArray, List.set_cons_zero, List.set_cons_succ]
          refine take_at 12 (.int .i64 (wErr D (g, F + i) P.length : Nat)) rfl (by kernel_rfl) (by kernel_rfl) (by kernel_rfl) (fun _ _ _ h => h) (Or.inl ⟨by rfl, ?_⟩) (by assumption) ?_
          · intro V hSV; go_simp
          simp only [Act.put, List.setIfInBounds_toArray, List.set_cons_zero, List.set_cons_succ]
          refine ready_store 14 rfl (by kernel_rfl) (by rfl) 32 _ _ (by rfl) _ _ (by rfl) (by rfl) hst hS14 ?_
          refine take_at 15 (.int .i64 (wErr D (g, F + i) P.length : Nat)) rfl (by kernel_rfl) (by kernel_rfl) (by kernel_rfl) (fun _ _ _ h => h) (Or.inl ⟨by rfl, ?_⟩) (by assumption) ?_
          · intro V hSV; go_simp
          simp only [Act.put, List.setIfInBounds_toArray, List.set_cons_zero, List.set_cons_succ]
          refine wpAnyH_done (by kernel_rfl) ?_ _
          refine NoPanic.normal ?_
          clear hst hS14 hHeld hHeld9 hHeld13
          generalize U2.setRow wr.heap.size #[.int .i64 r', .int .i64 s', .slice a' L' c', .bool cr', .bool ar', .int .i64 lf'] = U5 at *
          obtain ⟨B10, hB10⟩ : ∃ B10, wr.heap.size = B10 := ⟨_, rfl⟩
          have hg10 := HU.out.1
          rw [hB10] at hg10 ⊢
          have HL10 := Lib.hid (load_rd hg10 rfl)
          have HSt3 := Lib.hid (store_rd (cs := #[.int .i64 r', .int .i64 s', .slice a' L' c', .bool cr', .bool ar', .int .i64 lf']) ((HU.out.2.1.block _ (blk_lt HI.out.dev)).trans HI.out.dev) rfl rfl (six_one _ _ _ _ _ _ _ _))
          have HNx := Lib.hid (HI.out.stop HU.out.2.1 ⟨r', s', l', cr', ar', lf'⟩ a' c' HU.out.2.2)
          have HNy : Hid (wErr D (g, F + i) P.length = 0 → SvI w ⟨g, f, s⟩ d F ys (i + 1) (U5.setRow w.heap.size #[.int .i64 r', .int .i64 s', .slice a' L' c', .bool cr', .bool ar', .int .i64 lf']) (writeD D (g, F + i) P) ⟨r', s', l', cr', ar', lf'⟩ a' c') := fun he0 => by
            have := HI.out.next HU.out.2.1 (writeD D (g, F + i) P) ⟨r', s', l', cr', ar', lf'⟩ a' c' HT2.out.1 HU.out.2.2 ⟨(size_write _ _ _).1.trans HI.out.rs.1, (size_write _ _ _).2.trans HI.out.rs.2⟩ (left_write _ _ HI.out.lf) (by have := HI.out.good hne (by rw [HP.out]; exact he0); rw [HP.out] at this; exact this)
            unfold rdC at this
            dsimp only at this
            rw [HT2.out.2] at this
            exact this
          have HNz : Hid (wErr D (g, F + i) P.length ≠ 0 → saveD d ⟨g, f, s⟩ xs = writeD D (g, F + i) P ∧ saveE d ⟨g, f, s⟩ xs = wErr D (g, F + i) P.length) := fun he0 => HE2.out _ _ (by have := HI.out.bad hne (by rw [HP.out]; exact he0); rw [HP.out] at this; exact this) he0
          unfold rdC at HNx
          dsimp only at HNx
          rw [HT2.out.2] at HNx
          generalize wErr D (g, F + i) P.length = E at *
          by_cases hE0 : E = 0
          · subst hE0
            have HS1 := Lib.hid (HNy.out rfl)
            clear hg10 HNy HNz HNx HI HU HSt GL FG
            go_wp2_with (first | (refine wpList_load_at rfl 32 _ rfl _ _ rfl HL10.out ?_) | (refine wpList_store_at rfl 32 _ _ rfl _ _ rfl rfl HSt3.out ?_) | fail)
            exact ⟨⟨i + 1, _, _, _, _, by rw [hbT], by go_num, by omega, HS1⟩, by simp [intOf]; omega⟩
          · have hE1 : ((E : Int) == 0) = false := by simp; omega
            obtain ⟨hZ1, hZ2⟩ := HNz.out hE0
            have HL3 := Lib.hid (load_rd HNx.out.1 rfl)
            have HSt6 := Lib.hid (store_rd (cs := #[.int .i64 r', .int .i64 s', .slice a' L' c', .bool cr', .bool ar', .int .i64 lf']) HNx.out.2.2.1 rfl rfl (six_one _ _ _ _ _ _ _ _))
            have hF := rsv_end (w := w) (d := d) (a := ⟨g, f, s⟩) (xs := xs) (x := ⟨r', s', l', cr', ar', lf'⟩) HNx.out.2.1 (by rw [hZ1]; exact HT2.out.1) HNx.out.2.2.2 HNx.out.2.2.1 (by omega)
            unfold rdV rdC at hF
            dsimp only at hF
            rw [HT2.out.2, hZ2] at hF
            have HF := Lib.hid hF
            clear hg10 HNy HNz HNx HI HU HSt GL FG hF hZ1 hZ2
            go_wp2_with (first | (refine wpList_load_at rfl 32 _ rfl _ _ rfl HL10.out ?_) | (refine wpList_store_at rfl 32 _ _ rfl _ _ rfl rfl HSt3.out ?_) | (refine wpList_load_at rfl 32 _ rfl _ _ rfl HL3.out ?_) | (refine wpList_store_at rfl 32 _ _ rfl _ _ rfl rfl HSt6.out ?_) | fail)
            exact bodyPost_ret (results_rd rfl _ _ (w.heap.size + 1 + 1) _ (.int .i64 (E : Nat)) rfl rfl HF.out.1 rfl) rfl HF.out.2
theorem rsave_ {w : World} (x : RD) (al : Option Addr) (cl : Nat) (d : Dev) (a : Ar) (xs : List Nat) (h : Rdv w x al cl d) (hr : inR a) (hrs : d.r = 2 ∧ d.s = 12) (hlf : 0 ≤ d.left ∧ d.left ≤ 9223372036854775807) (hx : ∀ y ∈ xs, y < 256) :
    Calls Tryz.prog 16 #[rdV x al cl, arV a, .string (bs xs)] w (RSvTo w d a xs) := by
  by_cases he : lookE d a = 0
  · by_cases hl : roomA a < xs.length
    · exact rsave_long x al cl d a xs h hr he hl
    · exact rsave_ok x al cl d a xs h hr hrs hlf hx he hl
  · exact rsave_err x al cl d a xs h hr he
end Go.Proofs.YthaihallfjjnpaaGreatDoor
