/- The document's Append. -/
import Derived.Test.YtjnhcanohefjiaaGreatDoorRjReg
import Derived.Test.YtjnhcanohefjiaaGreatDoorRcRef
namespace Go.Proofs.YtjnhcanohefjiaaGreatDoor
open Go.RowKit Go.Sort Go.Maps

/-- What the document's Append hands back. -/
def RapTo (w : World) (M : Nat → Prop) (J : Jr) (E : Nat) (e : Ending) (w' : World) : Prop :=
  ∃ ea ec, e = .returned (.tuple #[rjV J ea ec, .int .i64 (E : Nat)]) ∧ EdF w' M ea ec J.ends ∧ Below w.heap.size w w'
theorem two_at (w : World) (o o' : Obj) : ((w.alloc o).alloc o').heap[w.heap.size]? = some o ∧ ((w.alloc o).alloc o').heap[w.heap.size + 1]? = some o' ∧ Below w.heap.size w ((w.alloc o).alloc o') := by
  have h0 := alloc_at w o
  have h1 := alloc_at (w.alloc o) o'
  simp only [World.size_alloc] at h1
  exact ⟨alloc_old h0, h1, below_step (below_alloc w o) (below_alloc _ _)⟩
theorem rj_cells {w : World} {b : Nat} {g f s : Int} {ep sf wt dd : Nat} {RR : ByteArray} {v : Value} {t : TypeId} {z : Nat × Nat} (h : w.heap[b]? = some (.cells #[.int .i64 g, .int .i64 f, .int .i64 s, .int .u64 ep, .string RR, v, .int .i64 (sf : Nat), .int .i64 (wt : Nat), .int .i64 (dd : Nat)] t z)) :
    w.cell? ⟨b, 0, none⟩ = some (.int .i64 g) ∧ w.cell? ⟨b, 1, none⟩ = some (.int .i64 f) ∧ w.cell? ⟨b, 2, none⟩ = some (.int .i64 s) ∧ w.cell? ⟨b, 3, none⟩ = some (.int .u64 ep) ∧ w.cell? ⟨b, 4, none⟩ = some (.string RR) ∧ w.cell? ⟨b, 5, none⟩ = some v ∧ w.cell? ⟨b, 6, none⟩ = some (.int .i64 (sf : Nat)) ∧ w.cell? ⟨b, 7, none⟩ = some (.int .i64 (wt : Nat)) ∧ w.cell? ⟨b, 8, none⟩ = some (.int .i64 (dd : Nat)) :=
  ⟨cell_of h rfl, cell_of h rfl, cell_of h rfl, cell_of h rfl, cell_of h rfl, cell_of h rfl, cell_of h rfl, cell_of h rfl, cell_of h rfl⟩
set_option maxRecDepth 100000 in
set_option maxHeartbeats 4000000 in
theorem rappend_dead {w : World} {J : Jr} (ea : Option Addr) (ec : Nat) (M : Nat → Prop) (hEd : EdF w M ea ec J.ends) (a : Option Addr) (xs : List Nat) (l c : Nat) (hd : J.dead ≠ 0) :
    Calls Tryz.prog 35 #[rjV J ea ec, .slice a l c] w (RapTo w M (appJ J xs) (appE J xs)) := by
  have e1 : appE J xs = J.dead := if_pos hd
  have e2 : appJ J xs = J := if_neg (by rw [e1]; exact hd)
  rw [e1, e2]
  have HF : Hid (∀ V', Below w.heap.size w V' → RapTo w M J J.dead (.returned (.tuple #[rjV J ea ec, .int .i64 (J.dead : Nat)])) V') := fun V' hb => ⟨ea, ec, rfl, hEd.on hb, hb⟩
  clear hEd e1 e2

  try unfold rjV at *
  obtain ⟨W, hW⟩ : ∃ W, W = (w.alloc (.cells #[.int .i64 J.a.g, .int .i64 J.a.f, .int .i64 J.a.s, .int .u64 J.ep, .string (bs J.row), .slice ea J.ends.length ec, .int .i64 (J.upto J.sf : Nat), .int .i64 (J.pss.length - J.sf : Nat), .int .i64 (J.dead : Nat)] 43)).alloc (.cells #[.int .i64 0, .int .i64 0, .int .i64 0, .int .u64 0, .string ⟨#[]⟩, .slice none 0 0, .int .i64 0, .int .i64 0, .int .i64 0] 43) := ⟨_, rfl⟩
  have hWf := two_at w (.cells #[.int .i64 J.a.g, .int .i64 J.a.f, .int .i64 J.a.s, .int .u64 J.ep, .string (bs J.row), .slice ea J.ends.length ec, .int .i64 (J.upto J.sf : Nat), .int .i64 (J.pss.length - J.sf : Nat), .int .i64 (J.dead : Nat)] 43) (.cells #[.int .i64 0, .int .i64 0, .int .i64 0, .int .u64 0, .string ⟨#[]⟩, .slice none 0 0, .int .i64 0, .int .i64 0, .int .i64 0] 43)
  rw [← hW] at hWf
  have HX := Lib.hid hWf
  have HW := Lib.hid hW
  clear hW hWf
  generalize J.a.g = g at *
  generalize J.a.f = f at *
  generalize J.a.s = s at *
  generalize J.ep = ep at *
  generalize bs J.row = RR at *
  generalize J.ends.length = en at *
  generalize J.upto J.sf = sf at *
  generalize J.pss.length - J.sf = wt at *

  generalize J.dead = dd at *
  have hd1 : ((dd : Int) == 0) = false := by simpa using hd
  obtain ⟨y0, y1, y2, y3, y4, y5, y6, y7, y8⟩ := rj_cells HX.out.1
  have GL : Hid (∀ V, Two (w.heap.size + 1) (w.heap.size + 1) W V → (Instr.loadAt 43 (.pointer (some ⟨w.heap.size, 0, none⟩))).run Tryz.prog V = .ok (.agg #[.int .i64 g, .int .i64 f, .int .i64 s, .int .u64 ep, .string RR, .slice ea en ec, .int .i64 (sf : Nat), .int .i64 (wt : Nat), .int .i64 (dd : Nat)]) V) := fun V hV => load_rj (hV.at HX.out.1 (by omega) (by omega)) rfl
  have G8 : Hid (∀ V, Two (w.heap.size + 1) (w.heap.size + 1) W V → V.cell? ⟨w.heap.size, 8, none⟩ = some (.int .i64 (dd : Nat))) := fun V hV => cell_of (hV.at HX.out.1 (by omega) (by omega)) rfl
  obtain ⟨V', hs', hp'⟩ := put_rj (w := W.drew) (cs := #[.int .i64 g, .int .i64 f, .int .i64 s, .int .u64 ep, .string RR, .slice ea en ec, .int .i64 (sf : Nat), .int .i64 (wt : Nat), .int .i64 (dd : Nat)]) HX.out.2.1 rfl rfl (rj_one _ _ _ _ _ _ _ _ _ _ _)
  have hS' : Two (w.heap.size + 1) (w.heap.size + 1) W V' := (Two.drew _ _ W).put hp' (.inl rfl)
  have HE := Lib.hid (And.intro hp'.blk (HF.out V' (hS'.below HX.out.2.2 HX.out.2.2.size (by omega) (by omega))))
  clear hp' HF
  go_enter Tryz.func35, Tryz.ntmps35
  go_wp2_with fail
  rw [← HW.out]
  go_wp2_with fail
  refine wp_region_noPanic ?_
  refine wp_region_held_drew (S := fun V => Two (w.heap.size + 1) (w.heap.size + 1) W V) (by kernel_rfl) (Two.drew _ _ _) (fun hHeld => ?_)
  refine tk 0 (.agg #[.int .i64 g, .int .i64 f, .int .i64 s, .int .u64 ep, .string RR, .slice ea en ec, .int .i64 (sf : Nat), .int .i64 (wt : Nat), .int .i64 (dd : Nat)]) (hy := (yields_load (by rfl) 43 _ (by rfl) _ _ (by rfl) (GL.out))) (h := ?_)
  refine tk 1 (.pointer (some ⟨w.heap.size, 8, none⟩)) (h := ?_)
  refine take_at 2 (.int .i64 (dd : Nat)) rfl (by kernel_rfl) (by kernel_rfl) (by kernel_rfl) (fun _ _ _ h => h) (Or.inl ⟨by rfl, ?_⟩) (by assumption) ?_
  · intro V hSV; have e0 := G8.out V hSV; go_simp
  simp only [Act.put, List.setIfInBounds_toArray, List.set_cons_zero, List.set_cons_succ]
  refine ready_store 3 rfl (by kernel_rfl) (by rfl) 43 _ _ (by rfl) _ _ (by rfl) (by rfl) hs' hS' ?_
  refine tk 4 (.int .i64 (dd : Nat)) (h := ?_)
  refine wpAnyH_done (by kernel_rfl) ?_ _
  refine NoPanic.normal ?_
  go_wp2_with fail
  exact bodyPost_ret (results_j rfl _ _ (w.heap.size + 1) _ (.int .i64 (dd : Nat)) rfl rfl HE.out.1 rfl) rfl HE.out.2
set_option maxRecDepth 100000 in
set_option maxHeartbeats 4000000 in
theorem rappend_bad {w : World} {J : Jr} (hok : okJ J) (ea : Option Addr) (ec : Nat) (M : Nat → Prop) (hEd : EdF w M ea ec J.ends) (a : Option Addr) (xs : List Nat) (l c : Nat) (hl : xs.length = l) (hby : BytesIn w a xs) (hx : ∀ x ∈ xs, x < 256) (hc : a = none → c = 0) (hlim : l ≤ 9223372036854775807) (hd : J.dead = 0) (hr : refu xs.length ≠ 0) :
    Calls Tryz.prog 35 #[rjV J ea ec, .slice a l c] w (RapTo w M (appJ J xs) (appE J xs)) := by
  have e1 : appE J xs = refu xs.length := by unfold appE; rw [if_neg (by simpa using hd), if_pos hr]
  have e2 : appJ J xs = J := if_neg (by rw [e1]; exact hr)
  rw [e1, e2]
  have HF : Hid (∀ V', Below w.heap.size w V' → RapTo w M J (refu xs.length) (.returned (.tuple #[rjV J ea ec, .int .i64 (refu xs.length : Nat)])) V') := fun V' hb => ⟨ea, ec, rfl, hEd.on hb, hb⟩
  subst hl
  have HFr : Hid (∀ V, Below w.heap.size w V → Calls Tryz.prog 61 #[.int .u64 J.ep, .slice a xs.length c] V (ROpened V (frm J.ep xs).1 (frm J.ep xs).2)) := fun V hV => rframe_ J.ep a xs c V (hby.on hV) hx hc hok.ep hlim
  have ef : frm J.ep xs = ([], refu xs.length) := if_neg hr
  rw [ef] at HFr
  unfold ROpened at HFr
  simp only [List.length_nil] at HFr
  have hd1 : ((J.dead : Int) == 0) = true := by simp [hd]
  clear hEd hok hby hx hc e1 e2 ef

  try unfold rjV at *
  obtain ⟨W, hW⟩ : ∃ W, W = (w.alloc (.cells #[.int .i64 J.a.g, .int .i64 J.a.f, .int .i64 J.a.s, .int .u64 J.ep, .string (bs J.row), .slice ea J.ends.length ec, .int .i64 (J.upto J.sf : Nat), .int .i64 (J.pss.length - J.sf : Nat), .int .i64 (J.dead : Nat)] 43)).alloc (.cells #[.int .i64 0, .int .i64 0, .int .i64 0, .int .u64 0, .string ⟨#[]⟩, .slice none 0 0, .int .i64 0, .int .i64 0, .int .i64 0] 43) := ⟨_, rfl⟩
  have hWf := two_at w (.cells #[.int .i64 J.a.g, .int .i64 J.a.f, .int .i64 J.a.s, .int .u64 J.ep, .string (bs J.row), .slice ea J.ends.length ec, .int .i64 (J.upto J.sf : Nat), .int .i64 (J.pss.length - J.sf : Nat), .int .i64 (J.dead : Nat)] 43) (.cells #[.int .i64 0, .int .i64 0, .int .i64 0, .int .u64 0, .string ⟨#[]⟩, .slice none 0 0, .int .i64 0, .int .i64 0, .int .i64 0] 43)
  rw [← hW] at hWf
  have HX := Lib.hid hWf
  have HW := Lib.hid hW
  clear hW hWf
  generalize J.a.g = g at *
  generalize J.a.f = f at *
  generalize J.a.s = s at *
  generalize J.ep = ep at *
  generalize bs J.row = RR at *
  generalize J.ends.length = en at *
  generalize J.upto J.sf = sf at *
  generalize J.pss.length - J.sf = wt at *

  generalize J.dead = dd at *
  generalize xs.length = l at *
  generalize hE : refu l = E at *
  have hE1 : ((E : Int) == 0) = false := by simpa using hr
  clear hE hr hd
  obtain ⟨y0, y1, y2, y3, y4, y5, y6, y7, y8⟩ := rj_cells HX.out.1
  go_enter Tryz.func35, Tryz.ntmps35
  go_wp2_with fail
  rw [← HW.out]
  go_wp2_with fail
  refine (HFr.out W HX.out.2.2).mono ?_
  rintro e w2 ⟨a2, c2, rfl, _, hb2⟩
  have hj2 := (hb2.block _ (blk_lt HX.out.1)).trans HX.out.1
  have hz2 := (hb2.block _ (blk_lt HX.out.2.1)).trans HX.out.2.1
  have HLd := Lib.hid (load_rj hj2 rfl)
  obtain ⟨V', hs', hp'⟩ := put_rj (cs := #[.int .i64 g, .int .i64 f, .int .i64 s, .int .u64 ep, .string RR, .slice ea en ec, .int .i64 (sf : Nat), .int .i64 (wt : Nat), .int .i64 (dd : Nat)]) hz2 rfl rfl (rj_one _ _ _ _ _ _ _ _ _ _ _)
  have HSt := Lib.hid hs'
  have HE := Lib.hid (And.intro hp'.blk (HF.out V' (hp'.below (below_step HX.out.2.2 hb2) (by omega))))
  clear hp' hs' HF hj2 hz2 hb2 HFr HX HW y0 y1 y2 y3 y4 y5 y6 y7 y8
  go_wp2_with (first
    | (refine wpList_load_at rfl 43 _ rfl _ _ rfl HLd.out ?_)
    | (refine wpList_store_at rfl 43 _ _ rfl _ _ rfl rfl HSt.out ?_)
    | fail)
  exact bodyPost_ret (results_j rfl _ _ (w.heap.size + 1) _ (.int .i64 (E : Nat)) rfl rfl HE.out.1 rfl) rfl HE.out.2
set_option maxRecDepth 100000 in
set_option maxHeartbeats 4000000 in
theorem rappend_full {w : World} {J : Jr} (hok : okJ J) (ea : Option Addr) (ec : Nat) (M : Nat → Prop) (hEd : EdF w M ea ec J.ends) (a : Option Addr) (xs : List Nat) (l c : Nat) (hl : xs.length = l) (hby : BytesIn w a xs) (hx : ∀ x ∈ xs, x < 256) (hc : a = none → c = 0) (hlim : l ≤ 9223372036854775807) (hd : J.dead = 0) (hr : refu xs.length = 0) (hfull : 64 * J.a.s.toNat < J.row.length + (recB J.ep xs).length) :
    Calls Tryz.prog 35 #[rjV J ea ec, .slice a l c] w (RapTo w M (appJ J xs) (appE J xs)) := by
  have e1 : appE J xs = 10 := by unfold appE; rw [if_neg (by simpa using hd), if_neg (by simpa using hr), if_pos hfull]
  have e2 : appJ J xs = J := if_neg (by rw [e1]; decide)
  rw [e1, e2]
  have HF : Hid (∀ V', Below w.heap.size w V' → RapTo w M J 10 (.returned (.tuple #[rjV J ea ec, .int .i64 10])) V') := fun V' hb => ⟨ea, ec, rfl, hEd.on hb, hb⟩

  subst hl
  have HFr : Hid (∀ V, Below w.heap.size w V → Calls Tryz.prog 61 #[.int .u64 J.ep, .slice a xs.length c] V (ROpened V (frm J.ep xs).1 (frm J.ep xs).2)) := fun V hV => rframe_ J.ep a xs c V (hby.on hV) hx hc hok.ep hlim
  have ef : frm J.ep xs = (recB J.ep xs, 0) := if_pos hr
  rw [ef] at HFr
  unfold ROpened at HFr
  have HRm : Hid (∀ V, Calls Tryz.prog 15 #[rjV J ea ec] V fun e w' => e = .returned (.int .i64 (64 * J.a.s - (J.row.length : Nat))) ∧ Below V.heap.size V w') := fun V => rroom_ hok ea ec V
  have hd1 : ((J.dead : Int) == 0) = true := by simp [hd]
  have hs := hok.s
  have hrl := hok.row_le

  have hgt : ((recB J.ep xs).length : Int) > 64 * J.a.s - (J.row.length : Nat) := by omega
  clear hEd hok hby hx hc e1 e2 ef
  generalize 64 * J.a.s - (J.row.length : Nat) = rm at *
  generalize (recB J.ep xs).length = bl at *

  try unfold rjV at *
  obtain ⟨W, hW⟩ : ∃ W, W = (w.alloc (.cells #[.int .i64 J.a.g, .int .i64 J.a.f, .int .i64 J.a.s, .int .u64 J.ep, .string (bs J.row), .slice ea J.ends.length ec, .int .i64 (J.upto J.sf : Nat), .int .i64 (J.pss.length - J.sf : Nat), .int .i64 (J.dead : Nat)] 43)).alloc (.cells #[.int .i64 0, .int .i64 0, .int .i64 0, .int .u64 0, .string ⟨#[]⟩, .slice none 0 0, .int .i64 0, .int .i64 0, .int .i64 0] 43) := ⟨_, rfl⟩
  have hWf := two_at w (.cells #[.int .i64 J.a.g, .int .i64 J.a.f, .int .i64 J.a.s, .int .u64 J.ep, .string (bs J.row), .slice ea J.ends.length ec, .int .i64 (J.upto J.sf : Nat), .int .i64 (J.pss.length - J.sf : Nat), .int .i64 (J.dead : Nat)] 43) (.cells #[.int .i64 0, .int .i64 0, .int .i64 0, .int .u64 0, .string ⟨#[]⟩, .slice none 0 0, .int .i64 0, .int .i64 0, .int .i64 0] 43)
  rw [← hW] at hWf
  have HX := Lib.hid hWf
  have HW := Lib.hid hW
  clear hW hWf
  generalize J.a.g = g at *
  generalize J.a.f = f at *
  generalize J.a.s = s at *
  generalize J.ep = ep at *
  generalize bs J.row = RR at *
  generalize J.ends.length = en at *
  generalize J.upto J.sf = sf at *
  generalize J.pss.length - J.sf = wt at *

  generalize J.dead = dd at *
  generalize xs.length = l at *
  clear hr hd hfull
  obtain ⟨y0, y1, y2, y3, y4, y5, y6, y7, y8⟩ := rj_cells HX.out.1
  go_enter Tryz.func35, Tryz.ntmps35
  go_wp2_with fail
  rw [← HW.out]
  go_wp2_with fail
  refine (HFr.out W HX.out.2.2).mono ?_
  rintro e w2 ⟨a2, c2, rfl, _, hb2⟩
  have hj2 := (hb2.block _ (blk_lt HX.out.1)).trans HX.out.1
  have HLd := Lib.hid (load_rj hj2 rfl)
  have HB2 := Lib.hid hb2
  clear hj2 hb2 HFr y0 y1 y2 y3 y4 y5 y6 y7 y8
  go_wp2_with (first | (refine wpList_load_at rfl 43 _ rfl _ _ rfl HLd.out ?_) | fail)
  refine (HRm.out w2).mono ?_
  rintro e w3 ⟨rfl, hb3⟩
  have hb23 := below_step HB2.out hb3
  have hj3 := (hb23.block _ (blk_lt HX.out.1)).trans HX.out.1
  have hz3 := (hb23.block _ (blk_lt HX.out.2.1)).trans HX.out.2.1
  have HLd3 := Lib.hid (load_rj hj3 rfl)
  obtain ⟨V', hs', hp'⟩ := put_rj (cs := #[.int .i64 g, .int .i64 f, .int .i64 s, .int .u64 ep, .string RR, .slice ea en ec, .int .i64 (sf : Nat), .int .i64 (wt : Nat), .int .i64 (dd : Nat)]) hz3 rfl rfl (rj_one _ _ _ _ _ _ _ _ _ _ _)
  have HSt := Lib.hid hs'
  have HE := Lib.hid (And.intro hp'.blk (HF.out V' (hp'.below (below_step HX.out.2.2 hb23) (by omega))))
  clear hp' hs' HF hj3 hz3 hb3 hb23 HX HW HLd HRm HB2
  go_wp2_with (first
    | (refine wpList_load_at rfl 43 _ rfl _ _ rfl HLd3.out ?_)
    | (refine wpList_store_at rfl 43 _ _ rfl _ _ rfl rfl HSt.out ?_)
    | fail)
  exact bodyPost_ret (results_j rfl _ _ (w.heap.size + 1) _ (.int .i64 10) rfl rfl HE.out.1 rfl) rfl HE.out.2
set_option maxRecDepth 100000 in
set_option maxHeartbeats 4000000 in
theorem rappend_ok {w : World} {J : Jr} (hok : okJ J) (ea : Option Addr) (ec : Nat) (M : Nat → Prop) (hM : ∀ k, M k → k < w.heap.size) (hEd : EdF w M ea ec J.ends) (a : Option Addr) (xs : List Nat) (l c : Nat) (hl : xs.length = l) (hby : BytesIn w a xs) (hx : ∀ x ∈ xs, x < 256) (hc : a = none → c = 0) (hlim : l ≤ 9223372036854775807) (hd : J.dead = 0) (hr : refu xs.length = 0) (hfull : ¬ 64 * J.a.s.toNat < J.row.length + (recB J.ep xs).length) :
    Calls Tryz.prog 35 #[rjV J ea ec, .slice a l c] w (RapTo w M (appJ J xs) (appE J xs)) := by
  have e1 : appE J xs = 0 := by unfold appE; rw [if_neg (by simpa using hd), if_neg (by simpa using hr), if_neg hfull]
  have e2 : appJ J xs = { J with pss := J.pss ++ [xs] } := if_pos e1
  rw [e1, e2]
  have hends : (({ J with pss := J.pss ++ [xs] } : Jr)).ends = J.ends ++ [J.row.length + (recB J.ep xs).length] := by rw [app_ends, List.length_append]
  have hrow : (({ J with pss := J.pss ++ [xs] } : Jr)).row = J.row ++ recB J.ep xs := app_row J xs
  have hupto : (({ J with pss := J.pss ++ [xs] } : Jr)).upto J.sf = J.upto J.sf := by
    unfold Jr.upto
    show (allB J.ep ((J.pss ++ [xs]).take J.sf)).length = _
    rw [List.take_append_of_le_length hok.sf]
  have hwaits : (J.pss ++ [xs]).length - J.sf = J.pss.length - J.sf + 1 := by
    have := hok.sf
    rw [List.length_append, List.length_singleton]; omega
  have HF : Hid (∀ (V' : World) (a' : Option Addr) (c' : Nat), EdF V' M a' c' (J.ends ++ [J.row.length + (recB J.ep xs).length]) → Below w.heap.size w V' → RapTo w M { J with pss := J.pss ++ [xs] } 0 (.returned (.tuple #[.agg #[.int .i64 J.a.g, .int .i64 J.a.f, .int .i64 J.a.s, .int .u64 J.ep, .string (bs (J.row ++ recB J.ep xs)), .slice a' (J.ends.length + 1) c', .int .i64 (J.upto J.sf : Nat), .int .i64 ((J.pss.length - J.sf + 1 : Nat)), .int .i64 (J.dead : Nat)], .int .i64 0])) V') := fun V' a' c' he hb => ⟨a', c', by
      unfold rjV
      show _ = Ending.returned (.tuple #[.agg #[.int .i64 J.a.g, .int .i64 J.a.f, .int .i64 J.a.s, .int .u64 J.ep, .string (bs ({ J with pss := J.pss ++ [xs] } : Jr).row), .slice a' ({ J with pss := J.pss ++ [xs] } : Jr).ends.length c', .int .i64 ((({ J with pss := J.pss ++ [xs] } : Jr)).upto J.sf : Nat), .int .i64 ((J.pss ++ [xs]).length - J.sf : Nat), .int .i64 (J.dead : Nat)], .int .i64 0])
      rw [hrow, hends, hupto, hwaits, List.length_append]; rfl, by rw [hends]; exact he, hb⟩

  subst hl
  have HFr : Hid (∀ V, Below w.heap.size w V → Calls Tryz.prog 61 #[.int .u64 J.ep, .slice a xs.length c] V (ROpened V (frm J.ep xs).1 (frm J.ep xs).2)) := fun V hV => rframe_ J.ep a xs c V (hby.on hV) hx hc hok.ep hlim
  have ef : frm J.ep xs = (recB J.ep xs, 0) := if_pos hr
  rw [ef] at HFr
  unfold ROpened at HFr
  have HRm : Hid (∀ V, Calls Tryz.prog 15 #[rjV J ea ec] V fun e w' => e = .returned (.int .i64 (64 * J.a.s - (J.row.length : Nat))) ∧ Below V.heap.size V w') := fun V => rroom_ hok ea ec V
  have hd1 : ((J.dead : Int) == 0) = true := by simp [hd]
  have hs := hok.s
  have hrl := hok.row_le

  have hle : ¬ ((recB J.ep xs).length : Int) > 64 * J.a.s - (J.row.length : Nat) := by omega
  have hRB := bs_append J.row (recB J.ep xs)
  have hsz : (bs J.row).size = J.row.length := bs_size _
  have hsz2 : (bs (recB J.ep xs)).size = (recB J.ep xs).length := bs_size _
  have hsz3 : (bs (J.row ++ recB J.ep xs)).size = J.row.length + (recB J.ep xs).length := by rw [bs_size, List.length_append]
  have hbl : (recB J.ep xs).length ≤ 1048576 := by omega
  have hcn := hok.count
  have hel := ends_len J
  have HEn : Hid (J.ends.length ≤ 10000000 ∧ J.ends.length = J.ends.length) := ⟨by rw [hel]; omega, rfl⟩
  have hwt : J.pss.length - J.sf ≤ 1048576 := by omega
  have HEd := Lib.hid hEd
  have HM := Lib.hid hM
  unfold rjV at HRm ⊢
  clear hEd hok hby hx hc hM e1 e2 ef hends hrow hupto hwaits hel hcn
  generalize hrm : 64 * J.a.s - (J.row.length : Nat) = rm at *
  generalize hes : J.ends = es at *
  generalize hbx : recB J.ep xs = bx at *
  generalize hbn : bx.length = bl at *
  generalize hR2 : bs (J.row ++ bx) = R2 at *
  generalize hLL : J.row.length = L at *
  have HBN := Lib.hid hbn
  generalize hU : L + bl = U at *
  generalize ({ J with pss := J.pss ++ [xs] } : Jr) = J2 at *
  clear hrm hes hbx hbn hR2 hLL hfull hr hd hU

  try unfold rjV at *
  obtain ⟨W, hW⟩ : ∃ W, W = (w.alloc (.cells #[.int .i64 J.a.g, .int .i64 J.a.f, .int .i64 J.a.s, .int .u64 J.ep, .string (bs J.row), .slice ea es.length ec, .int .i64 (J.upto J.sf : Nat), .int .i64 (J.pss.length - J.sf : Nat), .int .i64 (J.dead : Nat)] 43)).alloc (.cells #[.int .i64 0, .int .i64 0, .int .i64 0, .int .u64 0, .string ⟨#[]⟩, .slice none 0 0, .int .i64 0, .int .i64 0, .int .i64 0] 43) := ⟨_, rfl⟩
  have hWf := two_at w (.cells #[.int .i64 J.a.g, .int .i64 J.a.f, .int .i64 J.a.s, .int .u64 J.ep, .string (bs J.row), .slice ea es.length ec, .int .i64 (J.upto J.sf : Nat), .int .i64 (J.pss.length - J.sf : Nat), .int .i64 (J.dead : Nat)] 43) (.cells #[.int .i64 0, .int .i64 0, .int .i64 0, .int .u64 0, .string ⟨#[]⟩, .slice none 0 0, .int .i64 0, .int .i64 0, .int .i64 0] 43)
  rw [← hW] at hWf
  have HX := Lib.hid hWf
  have HW := Lib.hid hW
  clear hW hWf
  generalize J.a.g = g at *
  generalize J.a.f = f at *
  generalize J.a.s = s at *
  generalize J.ep = ep at *
  generalize bs J.row = RR at *
  generalize hen : es.length = en at *
  have HEN := Lib.hid hen
  clear hen
  generalize J.upto J.sf = sf at *
  generalize J.pss.length - J.sf = wt at *

  generalize J.dead = dd at *
  generalize xs.length = l at *
  obtain ⟨y0, y1, y2, y3, y4, y5, y6, y7, y8⟩ := rj_cells HX.out.1
  go_enter Tryz.func35, Tryz.ntmps35
  go_wp2_with fail
  rw [← HW.out]
  go_wp2_with fail
  refine (HFr.out W HX.out.2.2).mono ?_
  rintro e w2 ⟨a2, c2, rfl, hby2, hb2⟩
  have hj2 := (hb2.block _ (blk_lt HX.out.1)).trans HX.out.1
  have HLd := Lib.hid (load_rj hj2 rfl)
  have HB2 := Lib.hid hb2
  have HBy2 := Lib.hid hby2
  clear hj2 hb2 hby2 HFr y0 y1 y2 y3 y4 y5 y6 y7 y8
  go_wp2_with (first | (refine wpList_load_at rfl 43 _ rfl _ _ rfl HLd.out ?_) | fail)
  refine (HRm.out w2).mono ?_
  rintro e w3 ⟨rfl, hb3⟩
  have hb23 := below_step HB2.out hb3
  have hj3 := (hb23.block _ (blk_lt HX.out.1)).trans HX.out.1
  have hz3 := (hb23.block _ (blk_lt HX.out.2.1)).trans HX.out.2.1
  have hcv : (convert 53 9 (.slice a2 bl c2)).run Tryz.prog w3 = .ok (.string (bs bx)) w3 := conv_ w3 a2 bl c2 bx HBN.out.symm (HBy2.out.on hb3)
  obtain ⟨y0, y1, y2, y3, y4, y5, y6, y7, y8⟩ := rj_cells hj3
  have f4 : w3.frozen? ⟨w.heap.size, 4, none⟩ = false := frozen_of hj3
  have hj5 : (w3.setCell ⟨w.heap.size, 4, none⟩ (.string R2)).heap[w.heap.size]? = some (.cells #[.int .i64 g, .int .i64 f, .int .i64 s, .int .u64 ep, .string R2, .slice ea en ec, .int .i64 (sf : Nat), .int .i64 (wt : Nat), .int .i64 (dd : Nat)] 43 (0, 0)) := heap_set _ hj3
  have hz5 : (w3.setCell ⟨w.heap.size, 4, none⟩ (.string R2)).heap[w.heap.size + 1]? = some (.cells #[.int .i64 0, .int .i64 0, .int .i64 0, .int .u64 0, .string ⟨#[]⟩, .slice none 0 0, .int .i64 0, .int .i64 0, .int .i64 0] 43 (0, 0)) := (heap_far _ (by omega)).trans hz3
  have hB5 : Below w.heap.size w (w3.setCell ⟨w.heap.size, 4, none⟩ (.string R2)) := below_set (below_step HX.out.2.2 hb23) (Nat.le_refl _) _
  have HJ5 := Lib.hid (And.intro hj5 (And.intro hz5 hB5))
  clear hj5 hz5 hB5 hb23 hz3 hj3 hb3 HBy2 HB2 HLd HRm HX HW
  go_wp2_with fail
  clear y0 y1 y2 y3 y4 y5 y6 y7 y8 f4 hcv
  generalize w3.setCell ⟨w.heap.size, 4, none⟩ (.string R2) = W5 at *
  obtain ⟨W, hW⟩ : ∃ W, W = W5.drew := ⟨_, rfl⟩
  have HJ : Hid (W.heap[w.heap.size]? = some (.cells #[.int .i64 g, .int .i64 f, .int .i64 s, .int .u64 ep, .string R2, .slice ea en ec, .int .i64 (sf : Nat), .int .i64 (wt : Nat), .int .i64 (dd : Nat)] 43 (0, 0)) ∧ W.heap[w.heap.size + 1]? = some (.cells #[.int .i64 0, .int .i64 0, .int .i64 0, .int .u64 0, .string ⟨#[]⟩, .slice none 0 0, .int .i64 0, .int .i64 0, .int .i64 0] 43 (0, 0)) ∧ Below w.heap.size w W) := by rw [hW]; exact ⟨HJ5.out.1, HJ5.out.2.1, below_step HJ5.out.2.2 (below_drew _)⟩
  have D5 : Hid (W.cell? ⟨w.heap.size, 5, none⟩ = some (.slice ea en ec)) := cell_of HJ.out.1 rfl
  have S0 : Hid (W.cell? ⟨w.heap.size, 4, none⟩ = some (.string R2)) := cell_of HJ.out.1 rfl
  have hBA : Below W.heap.size W (W.alloc (.cells #[.int .i64 (U : Int)] 3)) := below_alloc W _
  have D5b : Hid ((W.alloc (.cells #[.int .i64 (U : Int)] 3)).cell? ⟨w.heap.size, 5, none⟩ = some (.slice ea en ec)) := (hBA.cell (block_lt_of_cell D5.out)).trans D5.out
  have S1 : Hid ((W.alloc (.cells #[.int .i64 (U : Int)] 3)).cell? ⟨w.heap.size, 4, none⟩ = some (.string R2)) := (hBA.cell (block_lt_of_cell S0.out)).trans S0.out
  have HBA := Lib.hid hBA
  have HS8 : Hid (∀ V, (Instr.sliceAt 41 (.slice ea en ec) none (some (.int .i64 (en : Int))) (some (.int .i64 (en : Int)))).run Tryz.prog V = .ok (.slice ea en en) V) := fun V => slice_hm HEd.out en en (by rw [HEN.out]; exact Nat.le_refl _) V
  have G4 : Hid (∀ V : World, V.cell? ⟨w.heap.size, 4, none⟩ = some (.string R2) → V.cell? ⟨w.heap.size, 4, none⟩ = some (.string R2)) := fun V h => h
  have HT : Hid (∀ (a' : Option Addr) (c' : Nat) (w6 : World), OwnI w6 (W.alloc (.cells #[.int .i64 (U : Int)] 3)).heap.size (.slice a' (en + 1) c') (es ++ [U]) → Below (W.alloc (.cells #[.int .i64 (U : Int)] 3)).heap.size (W.alloc (.cells #[.int .i64 (U : Int)] 3)) w6 → w6.cell? ⟨w.heap.size, 4, none⟩ = some (.string R2) ∧ (w6.setCell ⟨w.heap.size, 5, none⟩ (.slice a' (en + 1) c')).cell? ⟨w.heap.size, 4, none⟩ = some (.string R2) ∧ (Instr.storeAt 41 (.pointer (some ⟨w.heap.size, 5, none⟩)) (.slice a' (en + 1) c')).run Tryz.prog w6 = .ok () (w6.setCell ⟨w.heap.size, 5, none⟩ (.slice a' (en + 1) c')) ∧ (w6.setCell ⟨w.heap.size, 5, none⟩ (.slice a' (en + 1) c')).cell? ⟨w.heap.size, 7, none⟩ = some (.int .i64 (wt : Nat)) ∧ (w6.setCell ⟨w.heap.size, 5, none⟩ (.slice a' (en + 1) c')).frozen? ⟨w.heap.size, 7, none⟩ = false ∧ (Instr.loadAt 43 (.pointer (some ⟨w.heap.size, 0, none⟩))).run Tryz.prog ((w6.setCell ⟨w.heap.size, 5, none⟩ (.slice a' (en + 1) c')).setCell ⟨w.heap.size, 7, none⟩ (.int .i64 ((wt + 1 : Nat)))) = .ok (.agg #[.int .i64 g, .int .i64 f, .int .i64 s, .int .u64 ep, .string R2, .slice a' (en + 1) c', .int .i64 (sf : Nat), .int .i64 ((wt + 1 : Nat)), .int .i64 (dd : Nat)]) ((w6.setCell ⟨w.heap.size, 5, none⟩ (.slice a' (en + 1) c')).setCell ⟨w.heap.size, 7, none⟩ (.int .i64 ((wt + 1 : Nat)))) ∧ ∃ V', (Instr.storeAt 43 (.pointer (some ⟨w.heap.size + 1, 0, none⟩)) (.agg #[.int .i64 g, .int .i64 f, .int .i64 s, .int .u64 ep, .string R2, .slice a' (en + 1) c', .int .i64 (sf : Nat), .int .i64 ((wt + 1 : Nat)), .int .i64 (dd : Nat)])).run Tryz.prog ((w6.setCell ⟨w.heap.size, 5, none⟩ (.slice a' (en + 1) c')).setCell ⟨w.heap.size, 7, none⟩ (.int .i64 ((wt + 1 : Nat)))) = .ok () V' ∧ V'.heap[w.heap.size + 1]? = some (.cells #[.int .i64 g, .int .i64 f, .int .i64 s, .int .u64 ep, .string R2, .slice a' (en + 1) c', .int .i64 (sf : Nat), .int .i64 ((wt + 1 : Nat)), .int .i64 (dd : Nat)] 43 (0, 0)) ∧ RapTo w M J2 0 (.returned (.tuple #[.agg #[.int .i64 g, .int .i64 f, .int .i64 s, .int .u64 ep, .string R2, .slice a' (en + 1) c', .int .i64 (sf : Nat), .int .i64 ((wt + 1 : Nat)), .int .i64 (dd : Nat)], .int .i64 0])) V') := by
    refine Lib.hid ?_
    intro a' c' w6 hown6 hb6
    have hb06 := below_step HBA.out hb6
    have s6 : w6.cell? ⟨w.heap.size, 4, none⟩ = some (.string R2) := (hb06.cell (block_lt_of_cell S0.out)).trans S0.out
    have hj6 := (hb06.block _ (blk_lt HJ.out.1)).trans HJ.out.1
    have hz6 := (hb06.block _ (blk_lt HJ.out.2.1)).trans HJ.out.2.1
    have hj7 : (w6.setCell ⟨w.heap.size, 5, none⟩ (.slice a' (en + 1) c')).heap[w.heap.size]? = some (.cells #[.int .i64 g, .int .i64 f, .int .i64 s, .int .u64 ep, .string R2, .slice a' (en + 1) c', .int .i64 (sf : Nat), .int .i64 (wt : Nat), .int .i64 (dd : Nat)] 43 (0, 0)) := heap_set _ hj6
    have hj8 : ((w6.setCell ⟨w.heap.size, 5, none⟩ (.slice a' (en + 1) c')).setCell ⟨w.heap.size, 7, none⟩ (.int .i64 ((wt + 1 : Nat)))).heap[w.heap.size]? = some (.cells #[.int .i64 g, .int .i64 f, .int .i64 s, .int .u64 ep, .string R2, .slice a' (en + 1) c', .int .i64 (sf : Nat), .int .i64 ((wt + 1 : Nat)), .int .i64 (dd : Nat)] 43 (0, 0)) := heap_set _ hj7
    have hz8 : ((w6.setCell ⟨w.heap.size, 5, none⟩ (.slice a' (en + 1) c')).setCell ⟨w.heap.size, 7, none⟩ (.int .i64 ((wt + 1 : Nat)))).heap[w.heap.size + 1]? = some (.cells #[.int .i64 0, .int .i64 0, .int .i64 0, .int .u64 0, .string ⟨#[]⟩, .slice none 0 0, .int .i64 0, .int .i64 0, .int .i64 0] 43 (0, 0)) := (heap_far _ (by omega)).trans ((heap_far _ (by omega)).trans hz6)
    have s7 : (w6.setCell ⟨w.heap.size, 5, none⟩ (.slice a' (en + 1) c')).cell? ⟨w.heap.size, 4, none⟩ = some (.string R2) := cell_of hj7 rfl
    obtain ⟨V', hs', hp'⟩ := put_rj (cs := #[.int .i64 g, .int .i64 f, .int .i64 s, .int .u64 ep, .string R2, .slice a' (en + 1) c', .int .i64 (sf : Nat), .int .i64 ((wt + 1 : Nat)), .int .i64 (dd : Nat)]) hz8 rfl rfl (rj_one _ _ _ _ _ _ _ _ _ _ _)
    obtain ⟨ea6, ec6, hv6, hEd6⟩ := edF_own hown6 (M := M) (fun k hk => by have := HM.out k hk; have := HJ.out.2.2.size; have := HBA.out.size; omega)
    obtain ⟨rfl, rfl⟩ : a' = ea6 ∧ c' = ec6 := by injection hv6 with q1 q2 q3; exact ⟨q1, q3⟩
    have hfar : ∀ (gg oo : Nat), a' = some ⟨gg, oo, none⟩ → w.heap.size + 1 < gg := fun gg oo e => by
      have q := (World.ownsRow.lt hown6 gg (by rw [e]; rfl)).1
      have := blk_lt HJ.out.2.1
      have := HBA.out.size
      omega
    have hEd8 : EdF V' M a' c' (es ++ [U]) := ⟨EndsF.put (w := (w6.setCell ⟨w.heap.size, 5, none⟩ (.slice a' (en + 1) c')).setCell ⟨w.heap.size, 7, none⟩ (.int .i64 ((wt + 1 : Nat)))) (fun i hi => by
        obtain ⟨gg, oo, q1, q2, q3⟩ := hEd6.ends i hi
        refine ⟨gg, oo, q1, ?_, q3⟩
        have hg := hfar gg oo q1
        have : ((w6.setCell ⟨w.heap.size, 5, none⟩ (.slice a' (en + 1) c')).setCell ⟨w.heap.size, 7, none⟩ (.int .i64 ((wt + 1 : Nat)))).heap[gg]? = w6.heap[gg]? := (heap_far _ (by omega)).trans (heap_far _ (by omega))
        rw [← q2]
        simp only [World.cell?, this]) hp' (fun gg oo e => by have := hfar gg oo e; omega), hEd6.cap⟩
    have hB8 : Below w.heap.size w V' := hp'.below (below_set (below_set (below_step HJ.out.2.2 hb06) (Nat.le_refl _) _) (Nat.le_refl _) _) (by omega)
    exact ⟨s6, s7, store_ints (cell_of hj6 rfl) (frozen_of hj6), cell_of hj7 rfl, frozen_of hj7, load_rj hj8 rfl, V', hs', hp'.blk, HF.out V' a' c' hEd8 hB8⟩
  have WW : Hid (IntKind.i64.wrap ((wt : Int) + 1) = ((wt + 1 : Nat) : Int)) := Lib.hid (by rw [wraps_i64 _ (by omega) (by omega)]; omega)
  clear hBA HJ5
  refine wp_region_noPanic ?_
  refine wp_region_held_drew (S := fun V => V.cell? ⟨w.heap.size, 4, none⟩ = some (.string R2)) (by kernel_rfl) (by rw [← hW]; exact S0.out) (fun hHeld => ?_)
  rw [← hW] at hHeld ⊢
  clear hW
  refine tk 0 (.pointer (some ⟨w.heap.size, 5, none⟩)) (h := ?_)
  refine tk 2 (.pointer (some ⟨w.heap.size, 5, none⟩)) (h := ?_)
  refine tk 5 (.pointer (some ⟨w.heap.size, 5, none⟩)) (h := ?_)
  refine tk 9 (.pointer (some ⟨w.heap.size, 4, none⟩)) (h := ?_)
  refine take_at 10 (.string R2) rfl (by kernel_rfl) (by kernel_rfl) (by kernel_rfl) (fun _ _ _ h => h) (Or.inl ⟨by rfl, ?_⟩) (by assumption) ?_
  · intro V hSV; have e0 := G4.out V hSV; go_simp
  simp only [Act.put, List.setIfInBounds_toArray, List.set_cons_zero, List.set_cons_succ]
  refine tk 11 (.int .i64 (U : Int)) (h := ?_)
  refine wpAnyH_ready (rs := [1, 3, 6, 12]) (by kernel_rfl) (by simp) (cons_at 1 (v := .slice ea en ec) (w' := W) rfl (by rfl) (by have e0 := D5.out; go_simp) S0.out ?n1x1 (cons_at 3 (v := .slice ea en ec) (w' := W) rfl (by rfl) (by have e0 := D5.out; go_simp) S0.out ?n3x1 (cons_at 6 (v := .slice ea en ec) (w' := W) rfl (by rfl) (by have e0 := D5.out; go_simp) S0.out ?n6x1 (cons_at 12 rfl (by rfl) (run_buildI _ _ _ _ _ rfl rfl) S1.out ?n12x1 AllReadyH.nil))))
  case n1x1 =>
    simp only [Act.put, List.setIfInBounds_toArray, List.set_cons_zero, List.set_cons_succ]
    refine wpAnyH_ready (rs := [3, 6, 12]) (by kernel_rfl) (by simp) (cons_at 3 (v := .slice ea en ec) (w' := W) rfl (by rfl) (by have e0 := D5.out; go_simp) S0.out ?n3x2 (cons_at 6 (v := .slice ea en ec) (w' := W) rfl (by rfl) (by have e0 := D5.out; go_simp) S0.out ?n6x2 (cons_at 12 rfl (by rfl) (run_buildI _ _ _ _ _ rfl rfl) S1.out ?n12x2 AllReadyH.nil)))
    case n3x2 =>
      simp only [Act.put, List.setIfInBounds_toArray, List.set_cons_zero, List.set_cons_succ]
      refine tk 4 (.int .i64 en) (h := ?_)
      refine wpAnyH_ready (rs := [6, 12]) (by kernel_rfl) (by simp) (cons_at 6 (v := .slice ea en ec) (w' := W) rfl (by rfl) (by have e0 := D5.out; go_simp) S0.out ?n6x3 (cons_at 12 rfl (by rfl) (run_buildI _ _ _ _ _ rfl rfl) S1.out ?n12x3 AllReadyH.nil))
      case n6x3 =>
        simp only [Act.put, List.setIfInBounds_toArray, List.set_cons_zero, List.set_cons_succ]
        refine tk 7 (.int .i64 en) (h := ?_)
        refine tk 8 (.slice ea en en) (hy := (yields_slice_hm (by rfl) 41 _ _ _ (by rfl) _ _ _ _ (by rfl) (by rfl) (by rfl) (fun V => HS8.out V))) (h := ?_)
        refine wpAnyH_ready (rs := [12]) (by kernel_rfl) (by simp) (cons_at 12 rfl (by rfl) (run_buildI _ _ _ _ _ rfl rfl) S1.out ?n12x4 AllReadyH.nil)
        case n12x4 =>
          have hSS := S1.out
          simp only [Act.put, List.setIfInBounds_toArray, List.set_cons_zero, List.set_cons_succ]
          refine wpAnyH_ready (rs := [13]) (by kernel_rfl) (by simp) ?_
          refine cons_op 13 rfl (fun KK hK => ?_) AllReadyH.nil
          refine step_append_intN _ rfl _ _ rfl M ea en es U HEN.out rfl (HEd.out.ends.on (below_step HJ.out.2.2 HBA.out)) W.heap.size rfl (cell_of (World.alloc_heap_new' _ _) rfl) HEn.out.1 ?_
          intro a' c' w6 hown6 hb6
          obtain ⟨s6, s7, h15, z7, f7, h8, V', hs', hE⟩ := HT.out a' c' w6 hown6 hb6
          have HS15 := Lib.hid h15
          have HSt := Lib.hid hs'
          have HLd8 := Lib.hid h8
          have HE := Lib.hid hE
          have ww := WW.out
          refine hK.out _ _ s6 (fun hHeld13 => ?_)
          clear hK KK hown6 hb6 h15 hs' h8 hE HF HEd HM HT
          simp only [Act.put, List.setIfInBounds_toArray, List.set_cons_zero, List.set_cons_succ]
          refine tk 14 (.pointer (some ⟨w.heap.size, 5, none⟩)) (h := ?_)
          refine ready_store 15 rfl (by kernel_rfl) (by rfl) 41 _ _ rfl _ _ rfl rfl HS15.out s7 ?_
          simp only [Act.put]
          refine wpAnyH_done (by kernel_rfl) ?_ _
          refine NoPanic.normal ?_
          generalize w6.setCell ⟨w.heap.size, 5, none⟩ (.slice a' (en + 1) c') = W7 at *
          clear HS15 hHeld13 s6
          go_wp2_with (first
            | (refine wpList_load_at rfl 43 _ rfl _ _ rfl HLd8.out ?_)
            | (refine wpList_store_at rfl 43 _ _ rfl _ _ rfl rfl HSt.out ?_)
            | fail)
          exact bodyPost_ret (results_j rfl _ _ (w.heap.size + 1) _ (.int .i64 0) rfl rfl HE.out.1 rfl) rfl HE.out.2
      case n12x3 =>
        have hSS := S1.out
        simp only [Act.put, List.setIfInBounds_toArray, List.set_cons_zero, List.set_cons_succ]
        refine wpAnyH_ready (rs := [6]) (by kernel_rfl) (by simp) (cons_at 6 (v := .slice ea en ec) (w' := W.alloc (.cells #[.int .i64 (U : Int)] 3)) rfl (by rfl) (by have e0 := D5b.out; go_simp) S1.out ?n6x5 AllReadyH.nil)
        case n6x5 =>
          simp only [Act.put, List.setIfInBounds_toArray, List.set_cons_zero, List.set_cons_succ]
          refine tk 7 (.int .i64 en) (h := ?_)
          refine tk 8 (.slice ea en en) (hy := (yields_slice_hm (by rfl) 41 _ _ _ (by rfl) _ _ _ _ (by rfl) (by rfl) (by rfl) (fun V => HS8.out V))) (h := ?_)
          refine wpAnyH_ready (rs := [13]) (by kernel_rfl) (by simp) ?_
          refine cons_op 13 rfl (fun KK hK => ?_) AllReadyH.nil
          refine step_append_intN _ rfl _ _ rfl M ea en es U HEN.out rfl (HEd.out.ends.on (below_step HJ.out.2.2 HBA.out)) W.heap.size rfl (cell_of (World.alloc_heap_new' _ _) rfl) HEn.out.1 ?_
          intro a' c' w6 hown6 hb6
          obtain ⟨s6, s7, h15, z7, f7, h8, V', hs', hE⟩ := HT.out a' c' w6 hown6 hb6
          have HS15 := Lib.hid h15
          have HSt := Lib.hid hs'
          have HLd8 := Lib.hid h8
          have HE := Lib.hid hE
          have ww := WW.out
          refine hK.out _ _ s6 (fun hHeld13 => ?_)
          clear hK KK hown6 hb6 h15 hs' h8 hE HF HEd HM HT
          simp only [Act.put, List.setIfInBounds_toArray, List.set_cons_zero, List.set_cons_succ]
          refine tk 14 (.pointer (some ⟨w.heap.size, 5, none⟩)) (h := ?_)
          refine ready_store 15 rfl (by kernel_rfl) (by rfl) 41 _ _ rfl _ _ rfl rfl HS15.out s7 ?_
          simp only [Act.put]
          refine wpAnyH_done (by kernel_rfl) ?_ _
          refine NoPanic.normal ?_
          generalize w6.setCell ⟨w.heap.size, 5, none⟩ (.slice a' (en + 1) c') = W7 at *
          clear HS15 hHeld13 s6
          go_wp2_with (first
            | (refine wpList_load_at rfl 43 _ rfl _ _ rfl HLd8.out ?_)
            | (refine wpList_store_at rfl 43 _ _ rfl _ _ rfl rfl HSt.out ?_)
            | fail)
          exact bodyPost_ret (results_j rfl _ _ (w.heap.size + 1) _ (.int .i64 0) rfl rfl HE.out.1 rfl) rfl HE.out.2
    case n6x2 =>
      simp only [Act.put, List.setIfInBounds_toArray, List.set_cons_zero, List.set_cons_succ]
      refine tk 7 (.int .i64 en) (h := ?_)
      refine wpAnyH_ready (rs := [3, 12]) (by kernel_rfl) (by simp) (cons_at 3 (v := .slice ea en ec) (w' := W) rfl (by rfl) (by have e0 := D5.out; go_simp) S0.out ?n3x6 (cons_at 12 rfl (by rfl) (run_buildI _ _ _ _ _ rfl rfl) S1.out ?n12x6 AllReadyH.nil))
      case n3x6 =>
        simp only [Act.put, List.setIfInBounds_toArray, List.set_cons_zero, List.set_cons_succ]
        refine tk 4 (.int .i64 en) (h := ?_)
        refine tk 8 (.slice ea en en) (hy := (yields_slice_hm (by rfl) 41 _ _ _ (by rfl) _ _ _ _ (by rfl) (by rfl) (by rfl) (fun V => HS8.out V))) (h := ?_)
        refine wpAnyH_ready (rs := [12]) (by kernel_rfl) (by simp) (cons_at 12 rfl (by rfl) (run_buildI _ _ _ _ _ rfl rfl) S1.out ?n12x7 AllReadyH.nil)
        case n12x7 =>
          have hSS := S1.out
          simp only [Act.put, List.setIfInBounds_toArray, List.set_cons_zero, List.set_cons_succ]
          refine wpAnyH_ready (rs := [13]) (by kernel_rfl) (by simp) ?_
          refine cons_op 13 rfl (fun KK hK => ?_) AllReadyH.nil
          refine step_append_intN _ rfl _ _ rfl M ea en es U HEN.out rfl (HEd.out.ends.on (below_step HJ.out.2.2 HBA.out)) W.heap.size rfl (cell_of (World.alloc_heap_new' _ _) rfl) HEn.out.1 ?_
          intro a' c' w6 hown6 hb6
          obtain ⟨s6, s7, h15, z7, f7, h8, V', hs', hE⟩ := HT.out a' c' w6 hown6 hb6
          have HS15 := Lib.hid h15
          have HSt := Lib.hid hs'
          have HLd8 := Lib.hid h8
          have HE := Lib.hid hE
          have ww := WW.out
          refine hK.out _ _ s6 (fun hHeld13 => ?_)
          clear hK KK hown6 hb6 h15 hs' h8 hE HF HEd HM HT
          simp only [Act.put, List.setIfInBounds_toArray, List.set_cons_zero, List.set_cons_succ]
          refine tk 14 (.pointer (some ⟨w.heap.size, 5, none⟩)) (h := ?_)
          refine ready_store 15 rfl (by kernel_rfl) (by rfl) 41 _ _ rfl _ _ rfl rfl HS15.out s7 ?_
          simp only [Act.put]
          refine wpAnyH_done (by kernel_rfl) ?_ _
          refine NoPanic.normal ?_
          generalize w6.setCell ⟨w.heap.size, 5, none⟩ (.slice a' (en + 1) c') = W7 at *
          clear HS15 hHeld13 s6
          go_wp2_with (first
            | (refine wpList_load_at rfl 43 _ rfl _ _ rfl HLd8.out ?_)
            | (refine wpList_store_at rfl 43 _ _ rfl _ _ rfl rfl HSt.out ?_)
            | fail)
          exact bodyPost_ret (results_j rfl _ _ (w.heap.size + 1) _ (.int .i64 0) rfl rfl HE.out.1 rfl) rfl HE.out.2
      case n12x6 =>
        have hSS := S1.out
        simp only [Act.put, List.setIfInBounds_toArray, List.set_cons_zero, List.set_cons_succ]
        refine wpAnyH_ready (rs := [3]) (by kernel_rfl) (by simp) (cons_at 3 (v := .slice ea en ec) (w' := W.alloc (.cells #[.int .i64 (U : Int)] 3)) rfl (by rfl) (by have e0 := D5b.out; go_simp) S1.out ?n3x8 AllReadyH.nil)
        case n3x8 =>
          simp only [Act.put, List.setIfInBounds_toArray, List.set_cons_zero, List.set_cons_succ]
          refine tk 4 (.int .i64 en) (h := ?_)
          refine tk 8 (.slice ea en en) (hy := (yields_slice_hm (by rfl) 41 _ _ _ (by rfl) _ _ _ _ (by rfl) (by rfl) (by rfl) (fun V => HS8.out V))) (h := ?_)
          refine wpAnyH_ready (rs := [13]) (by kernel_rfl) (by simp) ?_
          refine cons_op 13 rfl (fun KK hK => ?_) AllReadyH.nil
          refine step_append_intN _ rfl _ _ rfl M ea en es U HEN.out rfl (HEd.out.ends.on (below_step HJ.out.2.2 HBA.out)) W.heap.size rfl (cell_of (World.alloc_heap_new' _ _) rfl) HEn.out.1 ?_
          intro a' c' w6 hown6 hb6
          obtain ⟨s6, s7, h15, z7, f7, h8, V', hs', hE⟩ := HT.out a' c' w6 hown6 hb6
          have HS15 := Lib.hid h15
          have HSt := Lib.hid hs'
          have HLd8 := Lib.hid h8
          have HE := Lib.hid hE
          have ww := WW.out
          refine hK.out _ _ s6 (fun hHeld13 => ?_)
          clear hK KK hown6 hb6 h15 hs' h8 hE HF HEd HM HT
          simp only [Act.put, List.setIfInBounds_toArray, List.set_cons_zero, List.set_cons_succ]
          refine tk 14 (.pointer (some ⟨w.heap.size, 5, none⟩)) (h := ?_)
          refine ready_store 15 rfl (by kernel_rfl) (by rfl) 41 _ _ rfl _ _ rfl rfl HS15.out s7 ?_
          simp only [Act.put]
          refine wpAnyH_done (by kernel_rfl) ?_ _
          refine NoPanic.normal ?_
          generalize w6.setCell ⟨w.heap.size, 5, none⟩ (.slice a' (en + 1) c') = W7 at *
          clear HS15 hHeld13 s6
          go_wp2_with (first
            | (refine wpList_load_at rfl 43 _ rfl _ _ rfl HLd8.out ?_)
            | (refine wpList_store_at rfl 43 _ _ rfl _ _ rfl rfl HSt.out ?_)
            | fail)
          exact bodyPost_ret (results_j rfl _ _ (w.heap.size + 1) _ (.int .i64 0) rfl rfl HE.out.1 rfl) rfl HE.out.2
    case n12x2 =>
      have hSS := S1.out
      simp only [Act.put, List.setIfInBounds_toArray, List.set_cons_zero, List.set_cons_succ]
      refine wpAnyH_ready (rs := [3, 6]) (by kernel_rfl) (by simp) (cons_at 3 (v := .slice ea en ec) (w' := W.alloc (.cells #[.int .i64 (U : Int)] 3)) rfl (by rfl) (by have e0 := D5b.out; go_simp) S1.out ?n3x9 (cons_at 6 (v := .slice ea en ec) (w' := W.alloc (.cells #[.int .i64 (U : Int)] 3)) rfl (by rfl) (by have e0 := D5b.out; go_simp) S1.out ?n6x9 AllReadyH.nil))
      case n3x9 =>
        simp only [Act.put, List.setIfInBounds_toArray, List.set_cons_zero, List.set_cons_succ]
        refine tk 4 (.int .i64 en) (h := ?_)
        refine wpAnyH_ready (rs := [6]) (by kernel_rfl) (by simp) (cons_at 6 (v := .slice ea en ec) (w' := W.alloc (.cells #[.int .i64 (U : Int)] 3)) rfl (by rfl) (by have e0 := D5b.out; go_simp) S1.out ?n6x10 AllReadyH.nil)
        case n6x10 =>
          simp only [Act.put, List.setIfInBounds_toArray, List.set_cons_zero, List.set_cons_succ]
          refine tk 7 (.int .i64 en) (h := ?_)
          refine tk 8 (.slice ea en en) (hy := (yields_slice_hm (by rfl) 41 _ _ _ (by rfl) _ _ _ _ (by rfl) (by rfl) (by rfl) (fun V => HS8.out V))) (h := ?_)
          refine wpAnyH_ready (rs := [13]) (by kernel_rfl) (by simp) ?_
          refine cons_op 13 rfl (fun KK hK => ?_) AllReadyH.nil
          refine step_append_intN _ rfl _ _ rfl M ea en es U HEN.out rfl (HEd.out.ends.on (below_step HJ.out.2.2 HBA.out)) W.heap.size rfl (cell_of (World.alloc_heap_new' _ _) rfl) HEn.out.1 ?_
          intro a' c' w6 hown6 hb6
          obtain ⟨s6, s7, h15, z7, f7, h8, V', hs', hE⟩ := HT.out a' c' w6 hown6 hb6
          have HS15 := Lib.hid h15
          have HSt := Lib.hid hs'
          have HLd8 := Lib.hid h8
          have HE := Lib.hid hE
          have ww := WW.out
          refine hK.out _ _ s6 (fun hHeld13 => ?_)
          clear hK KK hown6 hb6 h15 hs' h8 hE HF HEd HM HT
          simp only [Act.put, List.setIfInBounds_toArray, List.set_cons_zero, List.set_cons_succ]
          refine tk 14 (.pointer (some ⟨w.heap.size, 5, none⟩)) (h := ?_)
          refine ready_store 15 rfl (by kernel_rfl) (by rfl) 41 _ _ rfl _ _ rfl rfl HS15.out s7 ?_
          simp only [Act.put]
          refine wpAnyH_done (by kernel_rfl) ?_ _
          refine NoPanic.normal ?_
          generalize w6.setCell ⟨w.heap.size, 5, none⟩ (.slice a' (en + 1) c') = W7 at *
          clear HS15 hHeld13 s6
          go_wp2_with (first
            | (refine wpList_load_at rfl 43 _ rfl _ _ rfl HLd8.out ?_)
            | (refine wpList_store_at rfl 43 _ _ rfl _ _ rfl rfl HSt.out ?_)
            | fail)
          exact bodyPost_ret (results_j rfl _ _ (w.heap.size + 1) _ (.int .i64 0) rfl rfl HE.out.1 rfl) rfl HE.out.2
      case n6x9 =>
        simp only [Act.put, List.setIfInBounds_toArray, List.set_cons_zero, List.set_cons_succ]
        refine tk 7 (.int .i64 en) (h := ?_)
        refine wpAnyH_ready (rs := [3]) (by kernel_rfl) (by simp) (cons_at 3 (v := .slice ea en ec) (w' := W.alloc (.cells #[.int .i64 (U : Int)] 3)) rfl (by rfl) (by have e0 := D5b.out; go_simp) S1.out ?n3x11 AllReadyH.nil)
        case n3x11 =>
          simp only [Act.put, List.setIfInBounds_toArray, List.set_cons_zero, List.set_cons_succ]
          refine tk 4 (.int .i64 en) (h := ?_)
          refine tk 8 (.slice ea en en) (hy := (yields_slice_hm (by rfl) 41 _ _ _ (by rfl) _ _ _ _ (by rfl) (by rfl) (by rfl) (fun V => HS8.out V))) (h := ?_)
          refine wpAnyH_ready (rs := [13]) (by kernel_rfl) (by simp) ?_
          refine cons_op 13 rfl (fun KK hK => ?_) AllReadyH.nil
          refine step_append_intN _ rfl _ _ rfl M ea en es U HEN.out rfl (HEd.out.ends.on (below_step HJ.out.2.2 HBA.out)) W.heap.size rfl (cell_of (World.alloc_heap_new' _ _) rfl) HEn.out.1 ?_
          intro a' c' w6 hown6 hb6
          obtain ⟨s6, s7, h15, z7, f7, h8, V', hs', hE⟩ := HT.out a' c' w6 hown6 hb6
          have HS15 := Lib.hid h15
          have HSt := Lib.hid hs'
          have HLd8 := Lib.hid h8
          have HE := Lib.hid hE
          have ww := WW.out
          refine hK.out _ _ s6 (fun hHeld13 => ?_)
          clear hK KK hown6 hb6 h15 hs' h8 hE HF HEd HM HT
          simp only [Act.put, List.setIfInBounds_toArray, List.set_cons_zero, List.set_cons_succ]
          refine tk 14 (.pointer (some ⟨w.heap.size, 5, none⟩)) (h := ?_)
          refine ready_store 15 rfl (by kernel_rfl) (by rfl) 41 _ _ rfl _ _ rfl rfl HS15.out s7 ?_
          simp only [Act.put]
          refine wpAnyH_done (by kernel_rfl) ?_ _
          refine NoPanic.normal ?_
          generalize w6.setCell ⟨w.heap.size, 5, none⟩ (.slice a' (en + 1) c') = W7 at *
          clear HS15 hHeld13 s6
          go_wp2_with (first
            | (refine wpList_load_at rfl 43 _ rfl _ _ rfl HLd8.out ?_)
            | (refine wpList_store_at rfl 43 _ _ rfl _ _ rfl rfl HSt.out ?_)
            | fail)
          exact bodyPost_ret (results_j rfl _ _ (w.heap.size + 1) _ (.int .i64 0) rfl rfl HE.out.1 rfl) rfl HE.out.2
  case n3x1 =>
    simp only [Act.put, List.setIfInBounds_toArray, List.set_cons_zero, List.set_cons_succ]
    refine tk 4 (.int .i64 en) (h := ?_)
    refine wpAnyH_ready (rs := [1, 6, 12]) (by kernel_rfl) (by simp) (cons_at 1 (v := .slice ea en ec) (w' := W) rfl (by rfl) (by have e0 := D5.out; go_simp) S0.out ?n1x12 (cons_at 6 (v := .slice ea en ec) (w' := W) rfl (by rfl) (by have e0 := D5.out; go_simp) S0.out ?n6x12 (cons_at 12 rfl (by rfl) (run_buildI _ _ _ _ _ rfl rfl) S1.out ?n12x12 AllReadyH.nil)))
    case n1x12 =>
      simp only [Act.put, List.setIfInBounds_toArray, List.set_cons_zero, List.set_cons_succ]
      refine wpAnyH_ready (rs := [6, 12]) (by kernel_rfl) (by simp) (cons_at 6 (v := .slice ea en ec) (w' := W) rfl (by rfl) (by have e0 := D5.out; go_simp) S0.out ?n6x13 (cons_at 12 rfl (by rfl) (run_buildI _ _ _ _ _ rfl rfl) S1.out ?n12x13 AllReadyH.nil))
      case n6x13 =>
        simp only [Act.put, List.setIfInBounds_toArray, List.set_cons_zero, List.set_cons_succ]
        refine tk 7 (.int .i64 en) (h := ?_)
        refine tk 8 (.slice ea en en) (hy := (yields_slice_hm (by rfl) 41 _ _ _ (by rfl) _ _ _ _ (by rfl) (by rfl) (by rfl) (fun V => HS8.out V))) (h := ?_)
        refine wpAnyH_ready (rs := [12]) (by kernel_rfl) (by simp) (cons_at 12 rfl (by rfl) (run_buildI _ _ _ _ _ rfl rfl) S1.out ?n12x14 AllReadyH.nil)
        case n12x14 =>
          have hSS := S1.out
          simp only [Act.put, List.setIfInBounds_toArray, List.set_cons_zero, List.set_cons_succ]
          refine wpAnyH_ready (rs := [13]) (by kernel_rfl) (by simp) ?_
          refine cons_op 13 rfl (fun KK hK => ?_) AllReadyH.nil
          refine step_append_intN _ rfl _ _ rfl M ea en es U HEN.out rfl (HEd.out.ends.on (below_step HJ.out.2.2 HBA.out)) W.heap.size rfl (cell_of (World.alloc_heap_new' _ _) rfl) HEn.out.1 ?_
          intro a' c' w6 hown6 hb6
          obtain ⟨s6, s7, h15, z7, f7, h8, V', hs', hE⟩ := HT.out a' c' w6 hown6 hb6
          have HS15 := Lib.hid h15
          have HSt := Lib.hid hs'
          have HLd8 := Lib.hid h8
          have HE := Lib.hid hE
          have ww := WW.out
          refine hK.out _ _ s6 (fun hHeld13 => ?_)
          clear hK KK hown6 hb6 h15 hs' h8 hE HF HEd HM HT
          simp only [Act.put, List.setIfInBounds_toArray, List.set_cons_zero, List.set_cons_succ]
          refine tk 14 (.pointer (some ⟨w.heap.size, 5, none⟩)) (h := ?_)
          refine ready_store 15 rfl (by kernel_rfl) (by rfl) 41 _ _ rfl _ _ rfl rfl HS15.out s7 ?_
          simp only [Act.put]
          refine wpAnyH_done (by kernel_rfl) ?_ _
          refine NoPanic.normal ?_
          generalize w6.setCell ⟨w.heap.size, 5, none⟩ (.slice a' (en + 1) c') = W7 at *
          clear HS15 hHeld13 s6
          go_wp2_with (first
            | (refine wpList_load_at rfl 43 _ rfl _ _ rfl HLd8.out ?_)
            | (refine wpList_store_at rfl 43 _ _ rfl _ _ rfl rfl HSt.out ?_)
            | fail)
          exact bodyPost_ret (results_j rfl _ _ (w.heap.size + 1) _ (.int .i64 0) rfl rfl HE.out.1 rfl) rfl HE.out.2
      case n12x13 =>
        have hSS := S1.out
        simp only [Act.put, List.setIfInBounds_toArray, List.set_cons_zero, List.set_cons_succ]
        refine wpAnyH_ready (rs := [6]) (by kernel_rfl) (by simp) (cons_at 6 (v := .slice ea en ec) (w' := W.alloc (.cells #[.int .i64 (U : Int)] 3)) rfl (by rfl) (by have e0 := D5b.out; go_simp) S1.out ?n6x15 AllReadyH.nil)
        case n6x15 =>
          simp only [Act.put, List.setIfInBounds_toArray, List.set_cons_zero, List.set_cons_succ]
          refine tk 7 (.int .i64 en) (h := ?_)
          refine tk 8 (.slice ea en en) (hy := (yields_slice_hm (by rfl) 41 _ _ _ (by rfl) _ _ _ _ (by rfl) (by rfl) (by rfl) (fun V => HS8.out V))) (h := ?_)
          refine wpAnyH_ready (rs := [13]) (by kernel_rfl) (by simp) ?_
          refine cons_op 13 rfl (fun KK hK => ?_) AllReadyH.nil
          refine step_append_intN _ rfl _ _ rfl M ea en es U HEN.out rfl (HEd.out.ends.on (below_step HJ.out.2.2 HBA.out)) W.heap.size rfl (cell_of (World.alloc_heap_new' _ _) rfl) HEn.out.1 ?_
          intro a' c' w6 hown6 hb6
          obtain ⟨s6, s7, h15, z7, f7, h8, V', hs', hE⟩ := HT.out a' c' w6 hown6 hb6
          have HS15 := Lib.hid h15
          have HSt := Lib.hid hs'
          have HLd8 := Lib.hid h8
          have HE := Lib.hid hE
          have ww := WW.out
          refine hK.out _ _ s6 (fun hHeld13 => ?_)
          clear hK KK hown6 hb6 h15 hs' h8 hE HF HEd HM HT
          simp only [Act.put, List.setIfInBounds_toArray, List.set_cons_zero, List.set_cons_succ]
          refine tk 14 (.pointer (some ⟨w.heap.size, 5, none⟩)) (h := ?_)
          refine ready_store 15 rfl (by kernel_rfl) (by rfl) 41 _ _ rfl _ _ rfl rfl HS15.out s7 ?_
          simp only [Act.put]
          refine wpAnyH_done (by kernel_rfl) ?_ _
          refine NoPanic.normal ?_
          generalize w6.setCell ⟨w.heap.size, 5, none⟩ (.slice a' (en + 1) c') = W7 at *
          clear HS15 hHeld13 s6
          go_wp2_with (first
            | (refine wpList_load_at rfl 43 _ rfl _ _ rfl HLd8.out ?_)
            | (refine wpList_store_at rfl 43 _ _ rfl _ _ rfl rfl HSt.out ?_)
            | fail)
          exact bodyPost_ret (results_j rfl _ _ (w.heap.size + 1) _ (.int .i64 0) rfl rfl HE.out.1 rfl) rfl HE.out.2
    case n6x12 =>
      simp only [Act.put, List.setIfInBounds_toArray, List.set_cons_zero, List.set_cons_succ]
      refine tk 7 (.int .i64 en) (h := ?_)
      refine wpAnyH_ready (rs := [1, 12]) (by kernel_rfl) (by simp) (cons_at 1 (v := .slice ea en ec) (w' := W) rfl (by rfl) (by have e0 := D5.out; go_simp) S0.out ?n1x16 (cons_at 12 rfl (by rfl) (run_buildI _ _ _ _ _ rfl rfl) S1.out ?n12x16 AllReadyH.nil))
      case n1x16 =>
        simp only [Act.put, List.setIfInBounds_toArray, List.set_cons_zero, List.set_cons_succ]
        refine tk 8 (.slice ea en en) (hy := (yields_slice_hm (by rfl) 41 _ _ _ (by rfl) _ _ _ _ (by rfl) (by rfl) (by rfl) (fun V => HS8.out V))) (h := ?_)
        refine wpAnyH_ready (rs := [12]) (by kernel_rfl) (by simp) (cons_at 12 rfl (by rfl) (run_buildI _ _ _ _ _ rfl rfl) S1.out ?n12x17 AllReadyH.nil)
        case n12x17 =>
          have hSS := S1.out
          simp only [Act.put, List.setIfInBounds_toArray, List.set_cons_zero, List.set_cons_succ]
          refine wpAnyH_ready (rs := [13]) (by kernel_rfl) (by simp) ?_
          refine cons_op 13 rfl (fun KK hK => ?_) AllReadyH.nil
          refine step_append_intN _ rfl _ _ rfl M ea en es U HEN.out rfl (HEd.out.ends.on (below_step HJ.out.2.2 HBA.out)) W.heap.size rfl (cell_of (World.alloc_heap_new' _ _) rfl) HEn.out.1 ?_
          intro a' c' w6 hown6 hb6
          obtain ⟨s6, s7, h15, z7, f7, h8, V', hs', hE⟩ := HT.out a' c' w6 hown6 hb6
          have HS15 := Lib.hid h15
          have HSt := Lib.hid hs'
          have HLd8 := Lib.hid h8
          have HE := Lib.hid hE
          have ww := WW.out
          refine hK.out _ _ s6 (fun hHeld13 => ?_)
          clear hK KK hown6 hb6 h15 hs' h8 hE HF HEd HM HT
          simp only [Act.put, List.setIfInBounds_toArray, List.set_cons_zero, List.set_cons_succ]
          refine tk 14 (.pointer (some ⟨w.heap.size, 5, none⟩)) (h := ?_)
          refine ready_store 15 rfl (by kernel_rfl) (by rfl) 41 _ _ rfl _ _ rfl rfl HS15.out s7 ?_
          simp only [Act.put]
          refine wpAnyH_done (by kernel_rfl) ?_ _
          refine NoPanic.normal ?_
          generalize w6.setCell ⟨w.heap.size, 5, none⟩ (.slice a' (en + 1) c') = W7 at *
          clear HS15 hHeld13 s6
          go_wp2_with (first
            | (refine wpList_load_at rfl 43 _ rfl _ _ rfl HLd8.out ?_)
            | (refine wpList_store_at rfl 43 _ _ rfl _ _ rfl rfl HSt.out ?_)
            | fail)
          exact bodyPost_ret (results_j rfl _ _ (w.heap.size + 1) _ (.int .i64 0) rfl rfl HE.out.1 rfl) rfl HE.out.2
      case n12x16 =>
        have hSS := S1.out
        simp only [Act.put, List.setIfInBounds_toArray, List.set_cons_zero, List.set_cons_succ]
        refine wpAnyH_ready (rs := [1]) (by kernel_rfl) (by simp) (cons_at 1 (v := .slice ea en ec) (w' := W.alloc (.cells #[.int .i64 (U : Int)] 3)) rfl (by rfl) (by have e0 := D5b.out; go_simp) S1.out ?n1x18 AllReadyH.nil)
        case n1x18 =>
          simp only [Act.put, List.setIfInBounds_toArray, List.set_cons_zero, List.set_cons_succ]
          refine tk 8 (.slice ea en en) (hy := (yields_slice_hm (by rfl) 41 _ _ _ (by rfl) _ _ _ _ (by rfl) (by rfl) (by rfl) (fun V => HS8.out V))) (h := ?_)
          refine wpAnyH_ready (rs := [13]) (by kernel_rfl) (by simp) ?_
          refine cons_op 13 rfl (fun KK hK => ?_) AllReadyH.nil
          refine step_append_intN _ rfl _ _ rfl M ea en es U HEN.out rfl (HEd.out.ends.on (below_step HJ.out.2.2 HBA.out)) W.heap.size rfl (cell_of (World.alloc_heap_new' _ _) rfl) HEn.out.1 ?_
          intro a' c' w6 hown6 hb6
          obtain ⟨s6, s7, h15, z7, f7, h8, V', hs', hE⟩ := HT.out a' c' w6 hown6 hb6
          have HS15 := Lib.hid h15
          have HSt := Lib.hid hs'
          have HLd8 := Lib.hid h8
          have HE := Lib.hid hE
          have ww := WW.out
          refine hK.out _ _ s6 (fun hHeld13 => ?_)
          clear hK KK hown6 hb6 h15 hs' h8 hE HF HEd HM HT
          simp only [Act.put, List.setIfInBounds_toArray, List.set_cons_zero, List.set_cons_succ]
          refine tk 14 (.pointer (some ⟨w.heap.size, 5, none⟩)) (h := ?_)
          refine ready_store 15 rfl (by kernel_rfl) (by rfl) 41 _ _ rfl _ _ rfl rfl HS15.out s7 ?_
          simp only [Act.put]
          refine wpAnyH_done (by kernel_rfl) ?_ _
          refine NoPanic.normal ?_
          generalize w6.setCell ⟨w.heap.size, 5, none⟩ (.slice a' (en + 1) c') = W7 at *
          clear HS15 hHeld13 s6
          go_wp2_with (first
            | (refine wpList_load_at rfl 43 _ rfl _ _ rfl HLd8.out ?_)
            | (refine wpList_store_at rfl 43 _ _ rfl _ _ rfl rfl HSt.out ?_)
            | fail)
          exact bodyPost_ret (results_j rfl _ _ (w.heap.size + 1) _ (.int .i64 0) rfl rfl HE.out.1 rfl) rfl HE.out.2
    case n12x12 =>
      have hSS := S1.out
      simp only [Act.put, List.setIfInBounds_toArray, List.set_cons_zero, List.set_cons_succ]
      refine wpAnyH_ready (rs := [1, 6]) (by kernel_rfl) (by simp) (cons_at 1 (v := .slice ea en ec) (w' := W.alloc (.cells #[.int .i64 (U : Int)] 3)) rfl (by rfl) (by have e0 := D5b.out; go_simp) S1.out ?n1x19 (cons_at 6 (v := .slice ea en ec) (w' := W.alloc (.cells #[.int .i64 (U : Int)] 3)) rfl (by rfl) (by have e0 := D5b.out; go_simp) S1.out ?n6x19 AllReadyH.nil))
      case n1x19 =>
        simp only [Act.put, List.setIfInBounds_toArray, List.set_cons_zero, List.set_cons_succ]
        refine wpAnyH_ready (rs := [6]) (by kernel_rfl) (by simp) (cons_at 6 (v := .slice ea en ec) (w' := W.alloc (.cells #[.int .i64 (U : Int)] 3)) rfl (by rfl) (by have e0 := D5b.out; go_simp) S1.out ?n6x20 AllReadyH.nil)
        case n6x20 =>
          simp only [Act.put, List.setIfInBounds_toArray, List.set_cons_zero, List.set_cons_succ]
          refine tk 7 (.int .i64 en) (h := ?_)
          refine tk 8 (.slice ea en en) (hy := (yields_slice_hm (by rfl) 41 _ _ _ (by rfl) _ _ _ _ (by rfl) (by rfl) (by rfl) (fun V => HS8.out V))) (h := ?_)
          refine wpAnyH_ready (rs := [13]) (by kernel_rfl) (by simp) ?_
          refine cons_op 13 rfl (fun KK hK => ?_) AllReadyH.nil
          refine step_append_intN _ rfl _ _ rfl M ea en es U HEN.out rfl (HEd.out.ends.on (below_step HJ.out.2.2 HBA.out)) W.heap.size rfl (cell_of (World.alloc_heap_new' _ _) rfl) HEn.out.1 ?_
          intro a' c' w6 hown6 hb6
          obtain ⟨s6, s7, h15, z7, f7, h8, V', hs', hE⟩ := HT.out a' c' w6 hown6 hb6
          have HS15 := Lib.hid h15
          have HSt := Lib.hid hs'
          have HLd8 := Lib.hid h8
          have HE := Lib.hid hE
          have ww := WW.out
          refine hK.out _ _ s6 (fun hHeld13 => ?_)
          clear hK KK hown6 hb6 h15 hs' h8 hE HF HEd HM HT
          simp only [Act.put, List.setIfInBounds_toArray, List.set_cons_zero, List.set_cons_succ]
          refine tk 14 (.pointer (some ⟨w.heap.size, 5, none⟩)) (h := ?_)
          refine ready_store 15 rfl (by kernel_rfl) (by rfl) 41 _ _ rfl _ _ rfl rfl HS15.out s7 ?_
          simp only [Act.put]
          refine wpAnyH_done (by kernel_rfl) ?_ _
          refine NoPanic.normal ?_
          generalize w6.setCell ⟨w.heap.size, 5, none⟩ (.slice a' (en + 1) c') = W7 at *
          clear HS15 hHeld13 s6
          go_wp2_with (first
            | (refine wpList_load_at rfl 43 _ rfl _ _ rfl HLd8.out ?_)
            | (refine wpList_store_at rfl 43 _ _ rfl _ _ rfl rfl HSt.out ?_)
            | fail)
          exact bodyPost_ret (results_j rfl _ _ (w.heap.size + 1) _ (.int .i64 0) rfl rfl HE.out.1 rfl) rfl HE.out.2
      case n6x19 =>
        simp only [Act.put, List.setIfInBounds_toArray, List.set_cons_zero, List.set_cons_succ]
        refine tk 7 (.int .i64 en) (h := ?_)
        refine wpAnyH_ready (rs := [1]) (by kernel_rfl) (by simp) (cons_at 1 (v := .slice ea en ec) (w' := W.alloc (.cells #[.int .i64 (U : Int)] 3)) rfl (by rfl) (by have e0 := D5b.out; go_simp) S1.out ?n1x21 AllReadyH.nil)
        case n1x21 =>
          simp only [Act.put, List.setIfInBounds_toArray, List.set_cons_zero, List.set_cons_succ]
          refine tk 8 (.slice ea en en) (hy := (yields_slice_hm (by rfl) 41 _ _ _ (by rfl) _ _ _ _ (by rfl) (by rfl) (by rfl) (fun V => HS8.out V))) (h := ?_)
          refine wpAnyH_ready (rs := [13]) (by kernel_rfl) (by simp) ?_
          refine cons_op 13 rfl (fun KK hK => ?_) AllReadyH.nil
          refine step_append_intN _ rfl _ _ rfl M ea en es U HEN.out rfl (HEd.out.ends.on (below_step HJ.out.2.2 HBA.out)) W.heap.size rfl (cell_of (World.alloc_heap_new' _ _) rfl) HEn.out.1 ?_
          intro a' c' w6 hown6 hb6
          obtain ⟨s6, s7, h15, z7, f7, h8, V', hs', hE⟩ := HT.out a' c' w6 hown6 hb6
          have HS15 := Lib.hid h15
          have HSt := Lib.hid hs'
          have HLd8 := Lib.hid h8
          have HE := Lib.hid hE
          have ww := WW.out
          refine hK.out _ _ s6 (fun hHeld13 => ?_)
          clear hK KK hown6 hb6 h15 hs' h8 hE HF HEd HM HT
          simp only [Act.put, List.setIfInBounds_toArray, List.set_cons_zero, List.set_cons_succ]
          refine tk 14 (.pointer (some ⟨w.heap.size, 5, none⟩)) (h := ?_)
          refine ready_store 15 rfl (by kernel_rfl) (by rfl) 41 _ _ rfl _ _ rfl rfl HS15.out s7 ?_
          simp only [Act.put]
          refine wpAnyH_done (by kernel_rfl) ?_ _
          refine NoPanic.normal ?_
          generalize w6.setCell ⟨w.heap.size, 5, none⟩ (.slice a' (en + 1) c') = W7 at *
          clear HS15 hHeld13 s6
          go_wp2_with (first
            | (refine wpList_load_at rfl 43 _ rfl _ _ rfl HLd8.out ?_)
            | (refine wpList_store_at rfl 43 _ _ rfl _ _ rfl rfl HSt.out ?_)
            | fail)
          exact bodyPost_ret (results_j rfl _ _ (w.heap.size + 1) _ (.int .i64 0) rfl rfl HE.out.1 rfl) rfl HE.out.2
  case n6x1 =>
    simp only [Act.put, List.setIfInBounds_toArray, List.set_cons_zero, List.set_cons_succ]
    refine tk 7 (.int .i64 en) (h := ?_)
    refine wpAnyH_ready (rs := [1, 3, 12]) (by kernel_rfl) (by simp) (cons_at 1 (v := .slice ea en ec) (w' := W) rfl (by rfl) (by have e0 := D5.out; go_simp) S0.out ?n1x22 (cons_at 3 (v := .slice ea en ec) (w' := W) rfl (by rfl) (by have e0 := D5.out; go_simp) S0.out ?n3x22 (cons_at 12 rfl (by rfl) (run_buildI _ _ _ _ _ rfl rfl) S1.out ?n12x22 AllReadyH.nil)))
    case n1x22 =>
      simp only [Act.put, List.setIfInBounds_toArray, List.set_cons_zero, List.set_cons_succ]
      refine wpAnyH_ready (rs := [3, 12]) (by kernel_rfl) (by simp) (cons_at 3 (v := .slice ea en ec) (w' := W) rfl (by rfl) (by have e0 := D5.out; go_simp) S0.out ?n3x23 (cons_at 12 rfl (by rfl) (run_buildI _ _ _ _ _ rfl rfl) S1.out ?n12x23 AllReadyH.nil))
      case n3x23 =>
        simp only [Act.put, List.setIfInBounds_toArray, List.set_cons_zero, List.set_cons_succ]
        refine tk 4 (.int .i64 en) (h := ?_)
        refine tk 8 (.slice ea en en) (hy := (yields_slice_hm (by rfl) 41 _ _ _ (by rfl) _ _ _ _ (by rfl) (by rfl) (by rfl) (fun V => HS8.out V))) (h := ?_)
        refine wpAnyH_ready (rs := [12]) (by kernel_rfl) (by simp) (cons_at 12 rfl (by rfl) (run_buildI _ _ _ _ _ rfl rfl) S1.out ?n12x24 AllReadyH.nil)
        case n12x24 =>
          have hSS := S1.out
          simp only [Act.put, List.setIfInBounds_toArray, List.set_cons_zero, List.set_cons_succ]
          refine wpAnyH_ready (rs := [13]) (by kernel_rfl) (by simp) ?_
          refine cons_op 13 rfl (fun KK hK => ?_) AllReadyH.nil
          refine step_append_intN _ rfl _ _ rfl M ea en es U HEN.out rfl (HEd.out.ends.on (below_step HJ.out.2.2 HBA.out)) W.heap.size rfl (cell_of (World.alloc_heap_new' _ _) rfl) HEn.out.1 ?_
          intro a' c' w6 hown6 hb6
          obtain ⟨s6, s7, h15, z7, f7, h8, V', hs', hE⟩ := HT.out a' c' w6 hown6 hb6
          have HS15 := Lib.hid h15
          have HSt := Lib.hid hs'
          have HLd8 := Lib.hid h8
          have HE := Lib.hid hE
          have ww := WW.out
          refine hK.out _ _ s6 (fun hHeld13 => ?_)
          clear hK KK hown6 hb6 h15 hs' h8 hE HF HEd HM HT
          simp only [Act.put, List.setIfInBounds_toArray, List.set_cons_zero, List.set_cons_succ]
          refine tk 14 (.pointer (some ⟨w.heap.size, 5, none⟩)) (h := ?_)
          refine ready_store 15 rfl (by kernel_rfl) (by rfl) 41 _ _ rfl _ _ rfl rfl HS15.out s7 ?_
          simp only [Act.put]
          refine wpAnyH_done (by kernel_rfl) ?_ _
          refine NoPanic.normal ?_
          generalize w6.setCell ⟨w.heap.size, 5, none⟩ (.slice a' (en + 1) c') = W7 at *
          clear HS15 hHeld13 s6
          go_wp2_with (first
            | (refine wpList_load_at rfl 43 _ rfl _ _ rfl HLd8.out ?_)
            | (refine wpList_store_at rfl 43 _ _ rfl _ _ rfl rfl HSt.out ?_)
            | fail)
          exact bodyPost_ret (results_j rfl _ _ (w.heap.size + 1) _ (.int .i64 0) rfl rfl HE.out.1 rfl) rfl HE.out.2
      case n12x23 =>
        have hSS := S1.out
        simp only [Act.put, List.setIfInBounds_toArray, List.set_cons_zero, List.set_cons_succ]
        refine wpAnyH_ready (rs := [3]) (by kernel_rfl) (by simp) (cons_at 3 (v := .slice ea en ec) (w' := W.alloc (.cells #[.int .i64 (U : Int)] 3)) rfl (by rfl) (by have e0 := D5b.out; go_simp) S1.out ?n3x25 AllReadyH.nil)
        case n3x25 =>
          simp only [Act.put, List.setIfInBounds_toArray, List.set_cons_zero, List.set_cons_succ]
          refine tk 4 (.int .i64 en) (h := ?_)
          refine tk 8 (.slice ea en en) (hy := (yields_slice_hm (by rfl) 41 _ _ _ (by rfl) _ _ _ _ (by rfl) (by rfl) (by rfl) (fun V => HS8.out V))) (h := ?_)
          refine wpAnyH_ready (rs := [13]) (by kernel_rfl) (by simp) ?_
          refine cons_op 13 rfl (fun KK hK => ?_) AllReadyH.nil
          refine step_append_intN _ rfl _ _ rfl M ea en es U HEN.out rfl (HEd.out.ends.on (below_step HJ.out.2.2 HBA.out)) W.heap.size rfl (cell_of (World.alloc_heap_new' _ _) rfl) HEn.out.1 ?_
          intro a' c' w6 hown6 hb6
          obtain ⟨s6, s7, h15, z7, f7, h8, V', hs', hE⟩ := HT.out a' c' w6 hown6 hb6
          have HS15 := Lib.hid h15
          have HSt := Lib.hid hs'
          have HLd8 := Lib.hid h8
          have HE := Lib.hid hE
          have ww := WW.out
          refine hK.out _ _ s6 (fun hHeld13 => ?_)
          clear hK KK hown6 hb6 h15 hs' h8 hE HF HEd HM HT
          simp only [Act.put, List.setIfInBounds_toArray, List.set_cons_zero, List.set_cons_succ]
          refine tk 14 (.pointer (some ⟨w.heap.size, 5, none⟩)) (h := ?_)
          refine ready_store 15 rfl (by kernel_rfl) (by rfl) 41 _ _ rfl _ _ rfl rfl HS15.out s7 ?_
          simp only [Act.put]
          refine wpAnyH_done (by kernel_rfl) ?_ _
          refine NoPanic.normal ?_
          generalize w6.setCell ⟨w.heap.size, 5, none⟩ (.slice a' (en + 1) c') = W7 at *
          clear HS15 hHeld13 s6
          go_wp2_with (first
            | (refine wpList_load_at rfl 43 _ rfl _ _ rfl HLd8.out ?_)
            | (refine wpList_store_at rfl 43 _ _ rfl _ _ rfl rfl HSt.out ?_)
            | fail)
          exact bodyPost_ret (results_j rfl _ _ (w.heap.size + 1) _ (.int .i64 0) rfl rfl HE.out.1 rfl) rfl HE.out.2
    case n3x22 =>
      simp only [Act.put, List.setIfInBounds_toArray, List.set_cons_zero, List.set_cons_succ]
      refine tk 4 (.int .i64 en) (h := ?_)
      refine wpAnyH_ready (rs := [1, 12]) (by kernel_rfl) (by simp) (cons_at 1 (v := .slice ea en ec) (w' := W) rfl (by rfl) (by have e0 := D5.out; go_simp) S0.out ?n1x26 (cons_at 12 rfl (by rfl) (run_buildI _ _ _ _ _ rfl rfl) S1.out ?n12x26 AllReadyH.nil))
      case n1x26 =>
        simp only [Act.put, List.setIfInBounds_toArray, List.set_cons_zero, List.set_cons_succ]
        refine tk 8 (.slice ea en en) (hy := (yields_slice_hm (by rfl) 41 _ _ _ (by rfl) _ _ _ _ (by rfl) (by rfl) (by rfl) (fun V => HS8.out V))) (h := ?_)
        refine wpAnyH_ready (rs := [12]) (by kernel_rfl) (by simp) (cons_at 12 rfl (by rfl) (run_buildI _ _ _ _ _ rfl rfl) S1.out ?n12x27 AllReadyH.nil)
        case n12x27 =>
          have hSS := S1.out
          simp only [Act.put, List.setIfInBounds_toArray, List.set_cons_zero, List.set_cons_succ]
          refine wpAnyH_ready (rs := [13]) (by kernel_rfl) (by simp) ?_
          refine cons_op 13 rfl (fun KK hK => ?_) AllReadyH.nil
          refine step_append_intN _ rfl _ _ rfl M ea en es U HEN.out rfl (HEd.out.ends.on (below_step HJ.out.2.2 HBA.out)) W.heap.size rfl (cell_of (World.alloc_heap_new' _ _) rfl) HEn.out.1 ?_
          intro a' c' w6 hown6 hb6
          obtain ⟨s6, s7, h15, z7, f7, h8, V', hs', hE⟩ := HT.out a' c' w6 hown6 hb6
          have HS15 := Lib.hid h15
          have HSt := Lib.hid hs'
          have HLd8 := Lib.hid h8
          have HE := Lib.hid hE
          have ww := WW.out
          refine hK.out _ _ s6 (fun hHeld13 => ?_)
          clear hK KK hown6 hb6 h15 hs' h8 hE HF HEd HM HT
          simp only [Act.put, List.setIfInBounds_toArray, List.set_cons_zero, List.set_cons_succ]
          refine tk 14 (.pointer (some ⟨w.heap.size, 5, none⟩)) (h := ?_)
          refine ready_store 15 rfl (by kernel_rfl) (by rfl) 41 _ _ rfl _ _ rfl rfl HS15.out s7 ?_
          simp only [Act.put]
          refine wpAnyH_done (by kernel_rfl) ?_ _
          refine NoPanic.normal ?_
          generalize w6.setCell ⟨w.heap.size, 5, none⟩ (.slice a' (en + 1) c') = W7 at *
          clear HS15 hHeld13 s6
          go_wp2_with (first
            | (refine wpList_load_at rfl 43 _ rfl _ _ rfl HLd8.out ?_)
            | (refine wpList_store_at rfl 43 _ _ rfl _ _ rfl rfl HSt.out ?_)
            | fail)
          exact bodyPost_ret (results_j rfl _ _ (w.heap.size + 1) _ (.int .i64 0) rfl rfl HE.out.1 rfl) rfl HE.out.2
      case n12x26 =>
        have hSS := S1.out
        simp only [Act.put, List.setIfInBounds_toArray, List.set_cons_zero, List.set_cons_succ]
        refine wpAnyH_ready (rs := [1]) (by kernel_rfl) (by simp) (cons_at 1 (v := .slice ea en ec) (w' := W.alloc (.cells #[.int .i64 (U : Int)] 3)) rfl (by rfl) (by have e0 := D5b.out; go_simp) S1.out ?n1x28 AllReadyH.nil)
        case n1x28 =>
          simp only [Act.put, List.setIfInBounds_toArray, List.set_cons_zero, List.set_cons_succ]
          refine tk 8 (.slice ea en en) (hy := (yields_slice_hm (by rfl) 41 _ _ _ (by rfl) _ _ _ _ (by rfl) (by rfl) (by rfl) (fun V => HS8.out V))) (h := ?_)
          refine wpAnyH_ready (rs := [13]) (by kernel_rfl) (by simp) ?_
          refine cons_op 13 rfl (fun KK hK => ?_) AllReadyH.nil
          refine step_append_intN _ rfl _ _ rfl M ea en es U HEN.out rfl (HEd.out.ends.on (below_step HJ.out.2.2 HBA.out)) W.heap.size rfl (cell_of (World.alloc_heap_new' _ _) rfl) HEn.out.1 ?_
          intro a' c' w6 hown6 hb6
          obtain ⟨s6, s7, h15, z7, f7, h8, V', hs', hE⟩ := HT.out a' c' w6 hown6 hb6
          have HS15 := Lib.hid h15
          have HSt := Lib.hid hs'
          have HLd8 := Lib.hid h8
          have HE := Lib.hid hE
          have ww := WW.out
          refine hK.out _ _ s6 (fun hHeld13 => ?_)
          clear hK KK hown6 hb6 h15 hs' h8 hE HF HEd HM HT
          simp only [Act.put, List.setIfInBounds_toArray, List.set_cons_zero, List.set_cons_succ]
          refine tk 14 (.pointer (some ⟨w.heap.size, 5, none⟩)) (h := ?_)
          refine ready_store 15 rfl (by kernel_rfl) (by rfl) 41 _ _ rfl _ _ rfl rfl HS15.out s7 ?_
          simp only [Act.put]
          refine wpAnyH_done (by kernel_rfl) ?_ _
          refine NoPanic.normal ?_
          generalize w6.setCell ⟨w.heap.size, 5, none⟩ (.slice a' (en + 1) c') = W7 at *
          clear HS15 hHeld13 s6
          go_wp2_with (first
            | (refine wpList_load_at rfl 43 _ rfl _ _ rfl HLd8.out ?_)
            | (refine wpList_store_at rfl 43 _ _ rfl _ _ rfl rfl HSt.out ?_)
            | fail)
          exact bodyPost_ret (results_j rfl _ _ (w.heap.size + 1) _ (.int .i64 0) rfl rfl HE.out.1 rfl) rfl HE.out.2
    case n12x22 =>
      have hSS := S1.out
      simp only [Act.put, List.setIfInBounds_toArray, List.set_cons_zero, List.set_cons_succ]
      refine wpAnyH_ready (rs := [1, 3]) (by kernel_rfl) (by simp) (cons_at 1 (v := .slice ea en ec) (w' := W.alloc (.cells #[.int .i64 (U : Int)] 3)) rfl (by rfl) (by have e0 := D5b.out; go_simp) S1.out ?n1x29 (cons_at 3 (v := .slice ea en ec) (w' := W.alloc (.cells #[.int .i64 (U : Int)] 3)) rfl (by rfl) (by have e0 := D5b.out; go_simp) S1.out ?n3x29 AllReadyH.nil))
      case n1x29 =>
        simp only [Act.put, List.setIfInBounds_toArray, List.set_cons_zero, List.set_cons_succ]
        refine wpAnyH_ready (rs := [3]) (by kernel_rfl) (by simp) (cons_at 3 (v := .slice ea en ec) (w' := W.alloc (.cells #[.int .i64 (U : Int)] 3)) rfl (by rfl) (by have e0 := D5b.out; go_simp) S1.out ?n3x30 AllReadyH.nil)
        case n3x30 =>
          simp only [Act.put, List.setIfInBounds_toArray, List.set_cons_zero, List.set_cons_succ]
          refine tk 4 (.int .i64 en) (h := ?_)
          refine tk 8 (.slice ea en en) (hy := (yields_slice_hm (by rfl) 41 _ _ _ (by rfl) _ _ _ _ (by rfl) (by rfl) (by rfl) (fun V => HS8.out V))) (h := ?_)
          refine wpAnyH_ready (rs := [13]) (by kernel_rfl) (by simp) ?_
          refine cons_op 13 rfl (fun KK hK => ?_) AllReadyH.nil
          refine step_append_intN _ rfl _ _ rfl M ea en es U HEN.out rfl (HEd.out.ends.on (below_step HJ.out.2.2 HBA.out)) W.heap.size rfl (cell_of (World.alloc_heap_new' _ _) rfl) HEn.out.1 ?_
          intro a' c' w6 hown6 hb6
          obtain ⟨s6, s7, h15, z7, f7, h8, V', hs', hE⟩ := HT.out a' c' w6 hown6 hb6
          have HS15 := Lib.hid h15
          have HSt := Lib.hid hs'
          have HLd8 := Lib.hid h8
          have HE := Lib.hid hE
          have ww := WW.out
          refine hK.out _ _ s6 (fun hHeld13 => ?_)
          clear hK KK hown6 hb6 h15 hs' h8 hE HF HEd HM HT
          simp only [Act.put, List.setIfInBounds_toArray, List.set_cons_zero, List.set_cons_succ]
          refine tk 14 (.pointer (some ⟨w.heap.size, 5, none⟩)) (h := ?_)
          refine ready_store 15 rfl (by kernel_rfl) (by rfl) 41 _ _ rfl _ _ rfl rfl HS15.out s7 ?_
          simp only [Act.put]
          refine wpAnyH_done (by kernel_rfl) ?_ _
          refine NoPanic.normal ?_
          generalize w6.setCell ⟨w.heap.size, 5, none⟩ (.slice a' (en + 1) c') = W7 at *
          clear HS15 hHeld13 s6
          go_wp2_with (first
            | (refine wpList_load_at rfl 43 _ rfl _ _ rfl HLd8.out ?_)
            | (refine wpList_store_at rfl 43 _ _ rfl _ _ rfl rfl HSt.out ?_)
            | fail)
          exact bodyPost_ret (results_j rfl _ _ (w.heap.size + 1) _ (.int .i64 0) rfl rfl HE.out.1 rfl) rfl HE.out.2
      case n3x29 =>
        simp only [Act.put, List.setIfInBounds_toArray, List.set_cons_zero, List.set_cons_succ]
        refine tk 4 (.int .i64 en) (h := ?_)
        refine wpAnyH_ready (rs := [1]) (by kernel_rfl) (by simp) (cons_at 1 (v := .slice ea en ec) (w' := W.alloc (.cells #[.int .i64 (U : Int)] 3)) rfl (by rfl) (by have e0 := D5b.out; go_simp) S1.out ?n1x31 AllReadyH.nil)
        case n1x31 =>
          simp only [Act.put, List.setIfInBounds_toArray, List.set_cons_zero, List.set_cons_succ]
          refine tk 8 (.slice ea en en) (hy := (yields_slice_hm (by rfl) 41 _ _ _ (by rfl) _ _ _ _ (by rfl) (by rfl) (by rfl) (fun V => HS8.out V))) (h := ?_)
          refine wpAnyH_ready (rs := [13]) (by kernel_rfl) (by simp) ?_
          refine cons_op 13 rfl (fun KK hK => ?_) AllReadyH.nil
          refine step_append_intN _ rfl _ _ rfl M ea en es U HEN.out rfl (HEd.out.ends.on (below_step HJ.out.2.2 HBA.out)) W.heap.size rfl (cell_of (World.alloc_heap_new' _ _) rfl) HEn.out.1 ?_
          intro a' c' w6 hown6 hb6
          obtain ⟨s6, s7, h15, z7, f7, h8, V', hs', hE⟩ := HT.out a' c' w6 hown6 hb6
          have HS15 := Lib.hid h15
          have HSt := Lib.hid hs'
          have HLd8 := Lib.hid h8
          have HE := Lib.hid hE
          have ww := WW.out
          refine hK.out _ _ s6 (fun hHeld13 => ?_)
          clear hK KK hown6 hb6 h15 hs' h8 hE HF HEd HM HT
          simp only [Act.put, List.setIfInBounds_toArray, List.set_cons_zero, List.set_cons_succ]
          refine tk 14 (.pointer (some ⟨w.heap.size, 5, none⟩)) (h := ?_)
          refine ready_store 15 rfl (by kernel_rfl) (by rfl) 41 _ _ rfl _ _ rfl rfl HS15.out s7 ?_
          simp only [Act.put]
          refine wpAnyH_done (by kernel_rfl) ?_ _
          refine NoPanic.normal ?_
          generalize w6.setCell ⟨w.heap.size, 5, none⟩ (.slice a' (en + 1) c') = W7 at *
          clear HS15 hHeld13 s6
          go_wp2_with (first
            | (refine wpList_load_at rfl 43 _ rfl _ _ rfl HLd8.out ?_)
            | (refine wpList_store_at rfl 43 _ _ rfl _ _ rfl rfl HSt.out ?_)
            | fail)
          exact bodyPost_ret (results_j rfl _ _ (w.heap.size + 1) _ (.int .i64 0) rfl rfl HE.out.1 rfl) rfl HE.out.2
  case n12x1 =>
    have hSS := S1.out
    simp only [Act.put, List.setIfInBounds_toArray, List.set_cons_zero, List.set_cons_succ]
    refine wpAnyH_ready (rs := [1, 3, 6]) (by kernel_rfl) (by simp) (cons_at 1 (v := .slice ea en ec) (w' := W.alloc (.cells #[.int .i64 (U : Int)] 3)) rfl (by rfl) (by have e0 := D5b.out; go_simp) S1.out ?n1x32 (cons_at 3 (v := .slice ea en ec) (w' := W.alloc (.cells #[.int .i64 (U : Int)] 3)) rfl (by rfl) (by have e0 := D5b.out; go_simp) S1.out ?n3x32 (cons_at 6 (v := .slice ea en ec) (w' := W.alloc (.cells #[.int .i64 (U : Int)] 3)) rfl (by rfl) (by have e0 := D5b.out; go_simp) S1.out ?n6x32 AllReadyH.nil)))
    case n1x32 =>
      simp only [Act.put, List.setIfInBounds_toArray, List.set_cons_zero, List.set_cons_succ]
      refine wpAnyH_ready (rs := [3, 6]) (by kernel_rfl) (by simp) (cons_at 3 (v := .slice ea en ec) (w' := W.alloc (.cells #[.int .i64 (U : Int)] 3)) rfl (by rfl) (by have e0 := D5b.out; go_simp) S1.out ?n3x33 (cons_at 6 (v := .slice ea en ec) (w' := W.alloc (.cells #[.int .i64 (U : Int)] 3)) rfl (by rfl) (by have e0 := D5b.out; go_simp) S1.out ?n6x33 AllReadyH.nil))
      case n3x33 =>
        simp only [Act.put, List.setIfInBounds_toArray, List.set_cons_zero, List.set_cons_succ]
        refine tk 4 (.int .i64 en) (h := ?_)
        refine wpAnyH_ready (rs := [6]) (by kernel_rfl) (by simp) (cons_at 6 (v := .slice ea en ec) (w' := W.alloc (.cells #[.int .i64 (U : Int)] 3)) rfl (by rfl) (by have e0 := D5b.out; go_simp) S1.out ?n6x34 AllReadyH.nil)
        case n6x34 =>
          simp only [Act.put, List.setIfInBounds_toArray, List.set_cons_zero, List.set_cons_succ]
          refine tk 7 (.int .i64 en) (h := ?_)
          refine tk 8 (.slice ea en en) (hy := (yields_slice_hm (by rfl) 41 _ _ _ (by rfl) _ _ _ _ (by rfl) (by rfl) (by rfl) (fun V => HS8.out V))) (h := ?_)
          refine wpAnyH_ready (rs := [13]) (by kernel_rfl) (by simp) ?_
          refine cons_op 13 rfl (fun KK hK => ?_) AllReadyH.nil
          refine step_append_intN _ rfl _ _ rfl M ea en es U HEN.out rfl (HEd.out.ends.on (below_step HJ.out.2.2 HBA.out)) W.heap.size rfl (cell_of (World.alloc_heap_new' _ _) rfl) HEn.out.1 ?_
          intro a' c' w6 hown6 hb6
          obtain ⟨s6, s7, h15, z7, f7, h8, V', hs', hE⟩ := HT.out a' c' w6 hown6 hb6
          have HS15 := Lib.hid h15
          have HSt := Lib.hid hs'
          have HLd8 := Lib.hid h8
          have HE := Lib.hid hE
          have ww := WW.out
          refine hK.out _ _ s6 (fun hHeld13 => ?_)
          clear hK KK hown6 hb6 h15 hs' h8 hE HF HEd HM HT
          simp only [Act.put, List.setIfInBounds_toArray, List.set_cons_zero, List.set_cons_succ]
          refine tk 14 (.pointer (some ⟨w.heap.size, 5, none⟩)) (h := ?_)
          refine ready_store 15 rfl (by kernel_rfl) (by rfl) 41 _ _ rfl _ _ rfl rfl HS15.out s7 ?_
          simp only [Act.put]
          refine wpAnyH_done (by kernel_rfl) ?_ _
          refine NoPanic.normal ?_
          generalize w6.setCell ⟨w.heap.size, 5, none⟩ (.slice a' (en + 1) c') = W7 at *
          clear HS15 hHeld13 s6
          go_wp2_with (first
            | (refine wpList_load_at rfl 43 _ rfl _ _ rfl HLd8.out ?_)
            | (refine wpList_store_at rfl 43 _ _ rfl _ _ rfl rfl HSt.out ?_)
            | fail)
          exact bodyPost_ret (results_j rfl _ _ (w.heap.size + 1) _ (.int .i64 0) rfl rfl HE.out.1 rfl) rfl HE.out.2
      case n6x33 =>
        simp only [Act.put, List.setIfInBounds_toArray, List.set_cons_zero, List.set_cons_succ]
        refine tk 7 (.int .i64 en) (h := ?_)
        refine wpAnyH_ready (rs := [3]) (by kernel_rfl) (by simp) (cons_at 3 (v := .slice ea en ec) (w' := W.alloc (.cells #[.int .i64 (U : Int)] 3)) rfl (by rfl) (by have e0 := D5b.out; go_simp) S1.out ?n3x35 AllReadyH.nil)
        case n3x35 =>
          simp only [Act.put, List.setIfInBounds_toArray, List.set_cons_zero, List.set_cons_succ]
          refine tk 4 (.int .i64 en) (h := ?_)
          refine tk 8 (.slice ea en en) (hy := (yields_slice_hm (by rfl) 41 _ _ _ (by rfl) _ _ _ _ (by rfl) (by rfl) (by rfl) (fun V => HS8.out V))) (h := ?_)
          refine wpAnyH_ready (rs := [13]) (by kernel_rfl) (by simp) ?_
          refine cons_op 13 rfl (fun KK hK => ?_) AllReadyH.nil
          refine step_append_intN _ rfl _ _ rfl M ea en es U HEN.out rfl (HEd.out.ends.on (below_step HJ.out.2.2 HBA.out)) W.heap.size rfl (cell_of (World.alloc_heap_new' _ _) rfl) HEn.out.1 ?_
          intro a' c' w6 hown6 hb6
          obtain ⟨s6, s7, h15, z7, f7, h8, V', hs', hE⟩ := HT.out a' c' w6 hown6 hb6
          have HS15 := Lib.hid h15
          have HSt := Lib.hid hs'
          have HLd8 := Lib.hid h8
          have HE := Lib.hid hE
          have ww := WW.out
          refine hK.out _ _ s6 (fun hHeld13 => ?_)
          clear hK KK hown6 hb6 h15 hs' h8 hE HF HEd HM HT
          simp only [Act.put, List.setIfInBounds_toArray, List.set_cons_zero, List.set_cons_succ]
          refine tk 14 (.pointer (some ⟨w.heap.size, 5, none⟩)) (h := ?_)
          refine ready_store 15 rfl (by kernel_rfl) (by rfl) 41 _ _ rfl _ _ rfl rfl HS15.out s7 ?_
          simp only [Act.put]
          refine wpAnyH_done (by kernel_rfl) ?_ _
          refine NoPanic.normal ?_
          generalize w6.setCell ⟨w.heap.size, 5, none⟩ (.slice a' (en + 1) c') = W7 at *
          clear HS15 hHeld13 s6
          go_wp2_with (first
            | (refine wpList_load_at rfl 43 _ rfl _ _ rfl HLd8.out ?_)
            | (refine wpList_store_at rfl 43 _ _ rfl _ _ rfl rfl HSt.out ?_)
            | fail)
          exact bodyPost_ret (results_j rfl _ _ (w.heap.size + 1) _ (.int .i64 0) rfl rfl HE.out.1 rfl) rfl HE.out.2
    case n3x32 =>
      simp only [Act.put, List.setIfInBounds_toArray, List.set_cons_zero, List.set_cons_succ]
      refine tk 4 (.int .i64 en) (h := ?_)
      refine wpAnyH_ready (rs := [1, 6]) (by kernel_rfl) (by simp) (cons_at 1 (v := .slice ea en ec) (w' := W.alloc (.cells #[.int .i64 (U : Int)] 3)) rfl (by rfl) (by have e0 := D5b.out; go_simp) S1.out ?n1x36 (cons_at 6 (v := .slice ea en ec) (w' := W.alloc (.cells #[.int .i64 (U : Int)] 3)) rfl (by rfl) (by have e0 := D5b.out; go_simp) S1.out ?n6x36 AllReadyH.nil))
      case n1x36 =>
        simp only [Act.put, List.setIfInBounds_toArray, List.set_cons_zero, List.set_cons_succ]
        refine wpAnyH_ready (rs := [6]) (by kernel_rfl) (by simp) (cons_at 6 (v := .slice ea en ec) (w' := W.alloc (.cells #[.int .i64 (U : Int)] 3)) rfl (by rfl) (by have e0 := D5b.out; go_simp) S1.out ?n6x37 AllReadyH.nil)
        case n6x37 =>
          simp only [Act.put, List.setIfInBounds_toArray, List.set_cons_zero, List.set_cons_succ]
          refine tk 7 (.int .i64 en) (h := ?_)
          refine tk 8 (.slice ea en en) (hy := (yields_slice_hm (by rfl) 41 _ _ _ (by rfl) _ _ _ _ (by rfl) (by rfl) (by rfl) (fun V => HS8.out V))) (h := ?_)
          refine wpAnyH_ready (rs := [13]) (by kernel_rfl) (by simp) ?_
          refine cons_op 13 rfl (fun KK hK => ?_) AllReadyH.nil
          refine step_append_intN _ rfl _ _ rfl M ea en es U HEN.out rfl (HEd.out.ends.on (below_step HJ.out.2.2 HBA.out)) W.heap.size rfl (cell_of (World.alloc_heap_new' _ _) rfl) HEn.out.1 ?_
          intro a' c' w6 hown6 hb6
          obtain ⟨s6, s7, h15, z7, f7, h8, V', hs', hE⟩ := HT.out a' c' w6 hown6 hb6
          have HS15 := Lib.hid h15
          have HSt := Lib.hid hs'
          have HLd8 := Lib.hid h8
          have HE := Lib.hid hE
          have ww := WW.out
          refine hK.out _ _ s6 (fun hHeld13 => ?_)
          clear hK KK hown6 hb6 h15 hs' h8 hE HF HEd HM HT
          simp only [Act.put, List.setIfInBounds_toArray, List.set_cons_zero, List.set_cons_succ]
          refine tk 14 (.pointer (some ⟨w.heap.size, 5, none⟩)) (h := ?_)
          refine ready_store 15 rfl (by kernel_rfl) (by rfl) 41 _ _ rfl _ _ rfl rfl HS15.out s7 ?_
          simp only [Act.put]
          refine wpAnyH_done (by kernel_rfl) ?_ _
          refine NoPanic.normal ?_
          generalize w6.setCell ⟨w.heap.size, 5, none⟩ (.slice a' (en + 1) c') = W7 at *
          clear HS15 hHeld13 s6
          go_wp2_with (first
            | (refine wpList_load_at rfl 43 _ rfl _ _ rfl HLd8.out ?_)
            | (refine wpList_store_at rfl 43 _ _ rfl _ _ rfl rfl HSt.out ?_)
            | fail)
          exact bodyPost_ret (results_j rfl _ _ (w.heap.size + 1) _ (.int .i64 0) rfl rfl HE.out.1 rfl) rfl HE.out.2
      case n6x36 =>
        simp only [Act.put, List.setIfInBounds_toArray, List.set_cons_zero, List.set_cons_succ]
        refine tk 7 (.int .i64 en) (h := ?_)
        refine wpAnyH_ready (rs := [1]) (by kernel_rfl) (by simp) (cons_at 1 (v := .slice ea en ec) (w' := W.alloc (.cells #[.int .i64 (U : Int)] 3)) rfl (by rfl) (by have e0 := D5b.out; go_simp) S1.out ?n1x38 AllReadyH.nil)
        case n1x38 =>
          simp only [Act.put, List.setIfInBounds_toArray, List.set_cons_zero, List.set_cons_succ]
          refine tk 8 (.slice ea en en) (hy := (yields_slice_hm (by rfl) 41 _ _ _ (by rfl) _ _ _ _ (by rfl) (by rfl) (by rfl) (fun V => HS8.out V))) (h := ?_)
          refine wpAnyH_ready (rs := [13]) (by kernel_rfl) (by simp) ?_
          refine cons_op 13 rfl (fun KK hK => ?_) AllReadyH.nil
          refine step_append_intN _ rfl _ _ rfl M ea en es U HEN.out rfl (HEd.out.ends.on (below_step HJ.out.2.2 HBA.out)) W.heap.size rfl (cell_of (World.alloc_heap_new' _ _) rfl) HEn.out.1 ?_
          intro a' c' w6 hown6 hb6
          obtain ⟨s6, s7, h15, z7, f7, h8, V', hs', hE⟩ := HT.out a' c' w6 hown6 hb6
          have HS15 := Lib.hid h15
          have HSt := Lib.hid hs'
          have HLd8 := Lib.hid h8
          have HE := Lib.hid hE
          have ww := WW.out
          refine hK.out _ _ s6 (fun hHeld13 => ?_)
          clear hK KK hown6 hb6 h15 hs' h8 hE HF HEd HM HT
          simp only [Act.put, List.setIfInBounds_toArray, List.set_cons_zero, List.set_cons_succ]
          refine tk 14 (.pointer (some ⟨w.heap.size, 5, none⟩)) (h := ?_)
          refine ready_store 15 rfl (by kernel_rfl) (by rfl) 41 _ _ rfl _ _ rfl rfl HS15.out s7 ?_
          simp only [Act.put]
          refine wpAnyH_done (by kernel_rfl) ?_ _
          refine NoPanic.normal ?_
          generalize w6.setCell ⟨w.heap.size, 5, none⟩ (.slice a' (en + 1) c') = W7 at *
          clear HS15 hHeld13 s6
          go_wp2_with (first
            | (refine wpList_load_at rfl 43 _ rfl _ _ rfl HLd8.out ?_)
            | (refine wpList_store_at rfl 43 _ _ rfl _ _ rfl rfl HSt.out ?_)
            | fail)
          exact bodyPost_ret (results_j rfl _ _ (w.heap.size + 1) _ (.int .i64 0) rfl rfl HE.out.1 rfl) rfl HE.out.2
    case n6x32 =>
      simp only [Act.put, List.setIfInBounds_toArray, List.set_cons_zero, List.set_cons_succ]
      refine tk 7 (.int .i64 en) (h := ?_)
      refine wpAnyH_ready (rs := [1, 3]) (by kernel_rfl) (by simp) (cons_at 1 (v := .slice ea en ec) (w' := W.alloc (.cells #[.int .i64 (U : Int)] 3)) rfl (by rfl) (by have e0 := D5b.out; go_simp) S1.out ?n1x39 (cons_at 3 (v := .slice ea en ec) (w' := W.alloc (.cells #[.int .i64 (U : Int)] 3)) rfl (by rfl) (by have e0 := D5b.out; go_simp) S1.out ?n3x39 AllReadyH.nil))
      case n1x39 =>
        simp only [Act.put, List.setIfInBounds_toArray, List.set_cons_zero, List.set_cons_succ]
        refine wpAnyH_ready (rs := [3]) (by kernel_rfl) (by simp) (cons_at 3 (v := .slice ea en ec) (w' := W.alloc (.cells #[.int .i64 (U : Int)] 3)) rfl (by rfl) (by have e0 := D5b.out; go_simp) S1.out ?n3x40 AllReadyH.nil)
        case n3x40 =>
          simp only [Act.put, List.setIfInBounds_toArray, List.set_cons_zero, List.set_cons_succ]
          refine tk 4 (.int .i64 en) (h := ?_)
          refine tk 8 (.slice ea en en) (hy := (yields_slice_hm (by rfl) 41 _ _ _ (by rfl) _ _ _ _ (by rfl) (by rfl) (by rfl) (fun V => HS8.out V))) (h := ?_)
          refine wpAnyH_ready (rs := [13]) (by kernel_rfl) (by simp) ?_
          refine cons_op 13 rfl (fun KK hK => ?_) AllReadyH.nil
          refine step_append_intN _ rfl _ _ rfl M ea en es U HEN.out rfl (HEd.out.ends.on (below_step HJ.out.2.2 HBA.out)) W.heap.size rfl (cell_of (World.alloc_heap_new' _ _) rfl) HEn.out.1 ?_
          intro a' c' w6 hown6 hb6
          obtain ⟨s6, s7, h15, z7, f7, h8, V', hs', hE⟩ := HT.out a' c' w6 hown6 hb6
          have HS15 := Lib.hid h15
          have HSt := Lib.hid hs'
          have HLd8 := Lib.hid h8
          have HE := Lib.hid hE
          have ww := WW.out
          refine hK.out _ _ s6 (fun hHeld13 => ?_)
          clear hK KK hown6 hb6 h15 hs' h8 hE HF HEd HM HT
          simp only [Act.put, List.setIfInBounds_toArray, List.set_cons_zero, List.set_cons_succ]
          refine tk 14 (.pointer (some ⟨w.heap.size, 5, none⟩)) (h := ?_)
          refine ready_store 15 rfl (by kernel_rfl) (by rfl) 41 _ _ rfl _ _ rfl rfl HS15.out s7 ?_
          simp only [Act.put]
          refine wpAnyH_done (by kernel_rfl) ?_ _
          refine NoPanic.normal ?_
          generalize w6.setCell ⟨w.heap.size, 5, none⟩ (.slice a' (en + 1) c') = W7 at *
          clear HS15 hHeld13 s6
          go_wp2_with (first
            | (refine wpList_load_at rfl 43 _ rfl _ _ rfl HLd8.out ?_)
            | (refine wpList_store_at rfl 43 _ _ rfl _ _ rfl rfl HSt.out ?_)
            | fail)
          exact bodyPost_ret (results_j rfl _ _ (w.heap.size + 1) _ (.int .i64 0) rfl rfl HE.out.1 rfl) rfl HE.out.2
      case n3x39 =>
        simp only [Act.put, List.setIfInBounds_toArray, List.set_cons_zero, List.set_cons_succ]
        refine tk 4 (.int .i64 en) (h := ?_)
        refine wpAnyH_ready (rs := [1]) (by kernel_rfl) (by simp) (cons_at 1 (v := .slice ea en ec) (w' := W.alloc (.cells #[.int .i64 (U : Int)] 3)) rfl (by rfl) (by have e0 := D5b.out; go_simp) S1.out ?n1x41 AllReadyH.nil)
        case n1x41 =>
          simp only [Act.put, List.setIfInBounds_toArray, List.set_cons_zero, List.set_cons_succ]
          refine tk 8 (.slice ea en en) (hy := (yields_slice_hm (by rfl) 41 _ _ _ (by rfl) _ _ _ _ (by rfl) (by rfl) (by rfl) (fun V => HS8.out V))) (h := ?_)
          refine wpAnyH_ready (rs := [13]) (by kernel_rfl) (by simp) ?_
          refine cons_op 13 rfl (fun KK hK => ?_) AllReadyH.nil
          refine step_append_intN _ rfl _ _ rfl M ea en es U HEN.out rfl (HEd.out.ends.on (below_step HJ.out.2.2 HBA.out)) W.heap.size rfl (cell_of (World.alloc_heap_new' _ _) rfl) HEn.out.1 ?_
          intro a' c' w6 hown6 hb6
          obtain ⟨s6, s7, h15, z7, f7, h8, V', hs', hE⟩ := HT.out a' c' w6 hown6 hb6
          have HS15 := Lib.hid h15
          have HSt := Lib.hid hs'
          have HLd8 := Lib.hid h8
          have HE := Lib.hid hE
          have ww := WW.out
          refine hK.out _ _ s6 (fun hHeld13 => ?_)
          clear hK KK hown6 hb6 h15 hs' h8 hE HF HEd HM HT
          simp only [Act.put, List.setIfInBounds_toArray, List.set_cons_zero, List.set_cons_succ]
          refine tk 14 (.pointer (some ⟨w.heap.size, 5, none⟩)) (h := ?_)
          refine ready_store 15 rfl (by kernel_rfl) (by rfl) 41 _ _ rfl _ _ rfl rfl HS15.out s7 ?_
          simp only [Act.put]
          refine wpAnyH_done (by kernel_rfl) ?_ _
          refine NoPanic.normal ?_
          generalize w6.setCell ⟨w.heap.size, 5, none⟩ (.slice a' (en + 1) c') = W7 at *
          clear HS15 hHeld13 s6
          go_wp2_with (first
            | (refine wpList_load_at rfl 43 _ rfl _ _ rfl HLd8.out ?_)
            | (refine wpList_store_at rfl 43 _ _ rfl _ _ rfl rfl HSt.out ?_)
            | fail)
          exact bodyPost_ret (results_j rfl _ _ (w.heap.size + 1) _ (.int .i64 0) rfl rfl HE.out.1 rfl) rfl HE.out.2
theorem rappend_ {w : World} {J : Jr} (hok : okJ J) (ea : Option Addr) (ec : Nat) (M : Nat → Prop) (hM : ∀ k, M k → k < w.heap.size) (hEd : EdF w M ea ec J.ends) (a : Option Addr) (xs : List Nat) (l c : Nat) (hl : xs.length = l) (hby : BytesIn w a xs) (hx : ∀ x ∈ xs, x < 256) (hc : a = none → c = 0) (hlim : l ≤ 9223372036854775807) :
    Calls Tryz.prog 35 #[rjV J ea ec, .slice a l c] w (RapTo w M (appJ J xs) (appE J xs)) := by
  by_cases hd : J.dead = 0
  · by_cases hr : refu xs.length = 0
    · by_cases hf : 64 * J.a.s.toNat < J.row.length + (recB J.ep xs).length
      · exact rappend_full hok ea ec M hEd a xs l c hl hby hx hc hlim hd hr hf
      · exact rappend_ok hok ea ec M hM hEd a xs l c hl hby hx hc hlim hd hr hf
    · exact rappend_bad hok ea ec M hEd a xs l c hl hby hx hc hlim hd hr
  · exact rappend_dead ea ec M hEd a xs l c hd
end Go.Proofs.YtjnhcanohefjiaaGreatDoor
