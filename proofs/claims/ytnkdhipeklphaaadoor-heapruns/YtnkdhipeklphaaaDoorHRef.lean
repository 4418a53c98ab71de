/- The walks of the document's find, in, Push, Drop, Move, and of the law's items. -/
import Derived.Test.YtnkdhipeklphaaaDoorHApp
namespace Go.Proofs.YtnkdhipeklphaaaDoor
open Go.RowKit Go.Sort

/-- The place of a number in a list; none: it is not there. -/
def idx (id : Int) : List Sl → Option Nat
  | [] => none
  | x :: r => if x.id = id then some 0 else (idx id r).map (· + 1)
theorem eqI_ (w : World) (x y : Int) : (Op.equalIn 10000 37 (.agg #[.int .i64 x, .int .i64 y]) (.agg #[.int .i64 x, .int .i64 y])).run Tryd.prog w = .ok true w := by
  have fieldsI : (Tryd.prog.fieldsOf 37).toList.map (fun f => (f.name, f.type, f.offset)) = [("ID", 3, 0), ("Rank", 3, 1)] := by kernel_rfl
  rw [run_equalIn_struct w 9999 37 _ _ (by kernel_rfl) (by kernel_rfl)]
  have hf := fieldsI
  generalize (Tryd.prog.fieldsOf 37).toList = fs at *
  obtain ⟨f0, f1, rfl⟩ : ∃ f0 f1, fs = [f0, f1] := by
    have hl := congrArg List.length hf
    rcases fs with _ | ⟨f0, _ | ⟨f1, _ | ⟨f2, fs⟩⟩⟩ <;> first | exact ⟨_, _, rfl⟩ | simp at hl
  simp only [List.map_cons, List.map_nil, List.cons.injEq, Prod.mk.injEq, and_true] at hf
  obtain ⟨⟨a0, a1, a2⟩, ⟨b0, b1, b2⟩⟩ := hf
  have p0 := part_at w #[.int .i64 x, .int .i64 y] 0 (.int .i64 x) 3 (agg3 w) rfl
  have p1 := part_at w #[.int .i64 x, .int .i64 y] 1 (.int .i64 y) 3 (agg3 w) rfl
  have e0 := run_equalIn_int (P := Tryd.prog) w 9998 3 .i64 .i64 x x Tryd.underlying3
  have e1 := run_equalIn_int (P := Tryd.prog) w 9998 3 .i64 .i64 y y Tryd.underlying3
  generalize #[Value.int .i64 x, Value.int .i64 y] = A at *
  simp only [Op.eqFields, a0, a1, a2, b0, b1, b2, Sem.run_bind, Sem.run_ite, p0, p1, e0, e1, Result.andThen_ok]
  simp
set_option maxHeartbeats 1000000 in
theorem items_ (a a' : Option Addr) (L c c' : Nat) (r : List Sl) (w : World) (hL : L = r.length) (h : ItemsIn w a r) (h' : ItemsIn w a' r) (hl : r.length ≤ 1000000) :
    Calls Tryd.prog 16 #[.slice a L c, .slice a' L c'] w fun e w' => e = .returned (.bool true) ∧ Below w.heap.size w w' := by
  have HI := Lib.hid h
  have HI' := Lib.hid h'
  have HL := Lib.hid hL
  rw [← hL] at hl
  clear h h' hL
  go_enter Tryd.func16, Tryd.ntmps16
  go_wp2_with fail
  go_loopw [5] (fun iv wr => ∃ i : Nat, i ≤ L ∧ iv = .int .i64 i ∧ Hid (Below w.heap.size w wr)) (fun iv _ => L - (intOf iv).toNat)
  case atStart => exact ⟨0, Nat.zero_le _, rfl, Below.refl _ _⟩
  case round =>
    obtain ⟨i, hi, rfl, HB⟩ := hrel
    by_cases hlt : i < L
    · have hlt2 : (i : Int) < (L : Int) := by omega
      have hi2 : i < r.length := by rw [← HL.out]; exact hlt
      obtain ⟨b, o, rfl, q0, q1⟩ := (HI.out.on HB.out) i hi2
      obtain ⟨b', o', rfl, q2, q3⟩ := (HI'.out.on HB.out) i hi2
      generalize (r[i]).id = xi at *
      generalize (r[i]).rank = xr at *
      have hEQ := fun W => eqI_ W xi xr
      go_wp2_with fail
      go_quiet (fail)
      have HB1 := Lib.hid (below_drewN HB.out nq)
      go_wp2_with fail
      go_roundw
      case rel => exact ⟨i + 1, by omega, by go_num, HB1⟩
      case measure => simp [intOf]; omega
    · obtain rfl : i = L := by omega
      go_wp2_with fail
      go_ret
      exact ⟨rfl, HB.out⟩
/-- Whether a number is there, and where. -/
def Found (r : List Sl) (id x : Int) : Prop := (x = -1 ∧ ∀ y ∈ r, y.id ≠ id) ∨ ∃ k : Nat, x = k ∧ k < r.length ∧ ∀ hk : k < r.length, (r[k]).id = id
set_option maxHeartbeats 1000000 in
theorem rfind_ (a : Option Addr) (L c : Nat) (r : List Sl) (id : Int) (w : World) (hL : L = r.length) (h : ItemsIn w a r) (hl : r.length ≤ 1000000) :
    Calls Tryd.prog 21 #[.slice a L c, .int .i64 id] w fun e w' => (∃ x : Int, e = .returned (.int .i64 x) ∧ Found r id x) ∧ Below w.heap.size w w' := by
  have HI := Lib.hid h
  have HL := Lib.hid hL
  rw [← hL] at hl
  clear h hL
  go_enter Tryd.func21, Tryd.ntmps21
  go_wp2_with fail
  go_loopw [5] (fun iv wr => ∃ i : Nat, i ≤ L ∧ iv = .int .i64 i ∧ Hid (Below w.heap.size w wr) ∧ Hid (∀ y ∈ r.take i, y.id ≠ id)) (fun iv _ => L - (intOf iv).toNat)
  case atStart => exact ⟨0, Nat.zero_le _, rfl, Below.refl _ _, fun y hy => by simp at hy⟩
  case round =>
    obtain ⟨i, hi, rfl, HB, HN⟩ := hrel
    by_cases hlt : i < L
    · have hlt2 : (i : Int) < (L : Int) := by omega
      have hi2 : i < r.length := by rw [← HL.out]; exact hlt
      obtain ⟨b, o, rfl, q0, _⟩ := (HI.out.on HB.out) i hi2
      by_cases he : (r[i]).id = id
      · rw [he] at q0
        have HF : Hid (Found r id (i : Int)) := .inr ⟨i, rfl, hi2, fun _ => he⟩
        clear he
        go_wp2_with fail
        go_ret
        exact ⟨⟨_, rfl, HF.out⟩, HB.out⟩
      · have he' : ((r[i]).id == id) = false := by simpa using he
        have HN1 : Hid (∀ y ∈ r.take (i + 1), y.id ≠ id) := fun y hy => by
          rw [List.take_succ_eq_append_getElem hi2] at hy
          rcases List.mem_append.1 hy with hy | hy
          · exact HN.out y hy
          · simp at hy; subst hy; exact he
        generalize (r[i]).id = xi at *
        clear he
        go_wp2_with fail
        go_roundw
        case rel => exact ⟨i + 1, by omega, by go_num, HB.out, HN1.out⟩
        case measure => simp [intOf]; omega
    · obtain rfl : i = L := by omega
      have HF : Hid (Found r id (-1)) := .inl ⟨rfl, by have := HN.out; rw [HL.out, List.take_length] at this; exact this⟩
      go_wp2_with fail
      go_ret
      exact ⟨⟨_, rfl, HF.out⟩, HB.out⟩
theorem insL_at {r : List Sl} {x : Sl} : ∀ {k : Nat} (hk : k < r.length), (∀ y ∈ r.take k, y.rank ≤ x.rank) → ¬ (r[k]).rank ≤ x.rank → insL r x = r.take k ++ x :: r.drop k := by
  induction r with
  | nil => intro k hk; simp at hk
  | cons y r ih =>
    intro k hk h1 h2
    cases k with
    | zero => rw [insL_gt r (by simpa using h2)]; rfl
    | succ k =>
      rw [insL_le r (h1 y (by simp)), ih (k := k) (by simpa using hk) (fun z hz => h1 z (by simp [hz])) (by simpa using h2)]
      rfl
theorem insL_end {r : List Sl} {x : Sl} (h : ∀ y ∈ r, y.rank ≤ x.rank) : insL r x = r ++ [x] := by
  induction r with
  | nil => rfl
  | cons y r ih => rw [insL_le r (h y (by simp)), ih (fun z hz => h z (by simp [hz]))]; rfl
set_option maxHeartbeats 2000000 in
theorem rin_some (b o L c : Nat) (r : List Sl) (x : Sl) (w : World) (hL : L = r.length) (h : ItemsIn w (some ⟨b, o, none⟩) r) (hl : r.length ≤ 1000000) (hc : L ≤ c) :
    Calls Tryd.prog 22 #[.slice (some ⟨b, o, none⟩) L c, .agg #[.int .i64 x.id, .int .i64 x.rank]] w fun e w' => (∃ v', e = .returned v' ∧ Lst w' v' (insL r x)) ∧ Below w.heap.size w w' := by
  have HI := Lib.hid h
  have HL := Lib.hid hL
  rw [← hL] at hl
  obtain ⟨xi, xr, hxi, hxr⟩ : ∃ xi xr, x.id = xi ∧ x.rank = xr := ⟨_, _, rfl, rfl⟩
  have HX : Hid (x.id = xi ∧ x.rank = xr) := ⟨hxi, hxr⟩
  rw [hxi, hxr]
  clear h hL hxi hxr
  obtain ⟨W0, hW0⟩ : ∃ W0, W0 = w.alloc (.cells #[.int .i64 xi, .int .i64 xr] 40) := ⟨_, rfl⟩
  have HB0 : Hid (Below w.heap.size w W0) := by rw [hW0]; exact (Below.refl _ _).alloc (Nat.le_refl _) _
  have x0 : W0.heap[w.heap.size]? = some (.cells #[.int .i64 xi, .int .i64 xr] 40 (0, 0)) := by rw [hW0]; exact heap_alloc_new _ _
  have HX0 := Lib.hid x0
  have HW0 := Lib.hid hW0
  clear x0 hW0
  go_enter Tryd.func22, Tryd.ntmps22
  go_wp2_with fail
  rw [← HW0.out]
  go_loopw [5] (fun iv wr => ∃ k : Nat, k ≤ L ∧ iv = .int .i64 k ∧ Hid (Below W0.heap.size W0 wr ∧ ∀ y ∈ r.take k, y.rank ≤ x.rank)) (fun iv _ => L - (intOf iv).toNat)
  case atStart => exact ⟨0, Nat.zero_le _, rfl, Below.refl _ _, fun y hy => by simp at hy⟩
  case round =>
    obtain ⟨k, hk, rfl, H⟩ := hrel
    have hx0 := (H.out.1.block _ (blk_lt HX0.out)).trans HX0.out
    have xc1 := cell_of (o := 1) hx0 rfl
    have xc0 := cell_of (o := 0) hx0 rfl
    clear hx0
    by_cases hlt : k < L
    · have hlt2 : (k : Int) < (L : Int) := by omega
      have hk2 : k < r.length := by rw [← HL.out]; exact hlt
      obtain ⟨b', o', e', q0, q1⟩ := (HI.out.on (below_step HB0.out H.out.1)) k hk2
      cases e'
      by_cases hle : (r[k]).rank ≤ x.rank
      · have HN1 : Hid (∀ y ∈ r.take (k + 1), y.rank ≤ x.rank) := fun y hy => by
          rw [List.take_succ_eq_append_getElem hk2] at hy
          rcases List.mem_append.1 hy with hy | hy
          · exact H.out.2 y hy
          · simp at hy; subst hy; exact hle
        rw [HX.out.2] at hle
        generalize (r[k]).rank = yr at *
        generalize (r[k]).id = yi at *
        have hle' : decide (yr ≤ xr) = true := decide_eq_true hle
        clear hle
        go_wp2_with fail
        go_quiet (fail)
        have HB1 := Lib.hid (below_drewN H.out.1 nq)
        go_wp2_with fail
        go_roundw
        case rel => exact ⟨k + 1, by omega, by go_num, HB1.out, HN1.out⟩
        case measure => simp [intOf]; omega
      · have HEX : Hid (insL r x = r.take k ++ ([x] ++ r.drop k)) := insL_at hk2 H.out.2 hle
        rw [HX.out.2] at hle
        generalize (r[k]).rank = yr at *
        generalize (r[k]).id = yi at *
        have hle' : decide (yr ≤ xr) = false := decide_eq_false hle
        clear hle
        go_wp2_with fail
        go_quiet (fail)
        clear q0 q1
        have HB1 := Lib.hid (below_step HB0.out (below_drewN H.out.1 nq))
        have HI1 := Lib.hid (HI.out.on HB1.out)
        have hx1 := ((below_drewN H.out.1 nq).block _ (blk_lt HX0.out)).trans HX0.out
        have xd0 := cell_of (o := 0) hx1 rfl
        have xd1 := cell_of (o := 1) hx1 rfl
        clear hx1 xc0 xc1 HB0 HX0 HW0
        go_wp2_with fail
        generalize wr.drewN nq = W at *
        have xe0 : ∀ W', Below W.heap.size W W' → W'.cell? ⟨w.heap.size, 0, none⟩ = some (.int .i64 xi) := fun W' hW => (hW.cell (block_lt_of_cell xd0)).trans xd0
        have xe1 : ∀ W', Below W.heap.size W W' → W'.cell? ⟨w.heap.size, 1, none⟩ = some (.int .i64 xr) := fun W' hW => (hW.cell (block_lt_of_cell xd1)).trans xd1
        have htl : (r.take k).length = k := by rw [List.length_take, ← HL.out]; omega
        have hdl : (r.drop k : List Sl).length = L - k := by rw [List.length_drop, ← HL.out]
        have hbd : ([] ++ r.take k ++ [x]).length + (r.drop k : List Sl).length ≤ 4000000 := by rw [List.length_append, List.length_append, htl, hdl]; simp; omega
        clear xd0 xd1
        refine wp_region_noPanic ?_
        go_region_held_law (fun W' => Below W.heap.size W W') (first | assumption | exact below_drew _ | exact Below.alloc (by assumption) (by first | exact Nat.le_refl _ | exact (Below.size (by assumption))) _)
          (first
            | (refine step_append_items W.heap.size _ W rfl _ _ rfl (.slice none 0 0) [] (r.take k) rfl (ownI_nil _ _) (some ⟨b, o, none⟩) k c rfl htl (fun hh => by cases hh) ((HI1.out.on (by first | assumption | exact below_drew _)).take k) (by simp; omega) (Nat.le_refl _) (by first | assumption | exact below_drew _) ?_; intro v1 w1 hown1 hb1 hfar1)
            | (refine step_append_items W.heap.size _ W rfl _ _ rfl v1 ([] ++ r.take k) [x] rfl (hown1.on (by first | exact Below.refl _ _ | exact (Below.refl _ _).alloc (Nat.le_refl _) _)) (some ⟨_, 0, none⟩) 1 1 rfl rfl (fun hh => by cases hh) (by first | exact one_item _ x xi xr HX.out _ | exact one_item W.drew x xi xr HX.out _ | exact one_item_far HX.out hfar1 | exact one_item_far (w := W.drew) HX.out hfar1) (by simp; omega) (Nat.le_refl _) (by first | assumption | exact Below.alloc (by assumption) (by exact Below.size (by assumption)) _) ?_; intro v2 w2 hown2 hb2 hfar2))
        all_goals
          refine NoPanic.normal ?_
          have HO2 := Lib.hid hown2
          have HB2 := Lib.hid hb2
          clear hown1 hb1 hfar1 hown2 hb2 hfar2 xe0 xe1
          go_wp2_with (first | (at_builtin; refine wpList_append_items W.heap.size _ W rfl _ _ rfl v2 ([] ++ r.take k ++ [x]) (r.drop k) rfl HO2.out (some _) _ _ rfl (by first | exact hdl | simp) (fun hh => by cases hh) ((HI1.out.on HB2.out).drop k) hbd (Nat.le_refl _) HB2.out ?_) | fail)
          intro v3 w3 hown3 hb3
          have HE : Hid (Lst w3 v3 (insL r x) ∧ Below w.heap.size w w3) := by
            have h1 := hown3.lst
            rw [HEX.out]
            exact ⟨by simpa using h1, below_step HB1.out hb3⟩
          clear hown3 hb3 HO2 HB2
          go_wp2_with fail
          go_ret
          exact ⟨⟨v3, rfl, HE.out.1⟩, HE.out.2⟩
    · obtain rfl : k = L := by omega
      have hlt' : decide ((k : Int) < (k : Int)) = false := by simp
      have HEX : Hid (insL r x = r.take k ++ ([x] ++ [])) := by
        have := H.out.2
        rw [HL.out, List.take_length] at this ⊢
        exact insL_end this
      by_cases hcL : c = k
      · subst hcL
        go_wp2_with fail
        go_quiet (fail)
        have HB1 := Lib.hid (below_step HB0.out (below_drewN H.out.1 nq))
        have HI1 := Lib.hid (HI.out.on HB1.out)
        have hx1 := ((below_drewN H.out.1 nq).block _ (blk_lt HX0.out)).trans HX0.out
        have xd0 := cell_of (o := 0) hx1 rfl
        have xd1 := cell_of (o := 1) hx1 rfl
        clear hx1 xc0 xc1 HB0 HX0 HW0
        go_wp2_with fail
        generalize wr.drewN nq = W at *
        have xe0 : ∀ W', Below W.heap.size W W' → W'.cell? ⟨w.heap.size, 0, none⟩ = some (.int .i64 xi) := fun W' hW => (hW.cell (block_lt_of_cell xd0)).trans xd0
        have xe1 : ∀ W', Below W.heap.size W W' → W'.cell? ⟨w.heap.size, 1, none⟩ = some (.int .i64 xr) := fun W' hW => (hW.cell (block_lt_of_cell xd1)).trans xd1
        have htl : (r.take c).length = c := by rw [List.length_take, ← HL.out]; omega
        have hdl : ([] : List Sl).length = c - c := by simp
        have hbd : ([] ++ r.take c ++ [x]).length + ([] : List Sl).length ≤ 4000000 := by rw [List.length_append, List.length_append, htl, hdl]; simp; omega
        clear xd0 xd1
        refine wp_region_noPanic ?_
        go_region_held_law (fun W' => Below W.heap.size W W') (first | assumption | exact below_drew _ | exact Below.alloc (by assumption) (by first | exact Nat.le_refl _ | exact (Below.size (by assumption))) _)
          (first
            | (refine step_append_items W.heap.size _ W rfl _ _ rfl (.slice none 0 0) [] (r.take c) rfl (ownI_nil _ _) (some ⟨b, o, none⟩) c c rfl htl (fun hh => by cases hh) ((HI1.out.on (by first | assumption | exact below_drew _)).take c) (by simp; omega) (Nat.le_refl _) (by first | assumption | exact below_drew _) ?_; intro v1 w1 hown1 hb1 hfar1)
            | (refine step_append_items W.heap.size _ W rfl _ _ rfl v1 ([] ++ r.take c) [x] rfl (hown1.on (by first | exact Below.refl _ _ | exact (Below.refl _ _).alloc (Nat.le_refl _) _)) (some ⟨_, 0, none⟩) 1 1 rfl rfl (fun hh => by cases hh) (by first | exact one_item _ x xi xr HX.out _ | exact one_item W.drew x xi xr HX.out _ | exact one_item_far HX.out hfar1 | exact one_item_far (w := W.drew) HX.out hfar1) (by simp; omega) (Nat.le_refl _) (by first | assumption | exact Below.alloc (by assumption) (by exact Below.size (by assumption)) _) ?_; intro v2 w2 hown2 hb2 hfar2))
        all_goals
          refine NoPanic.normal ?_
          have HO2 := Lib.hid hown2
          have HB2 := Lib.hid hb2
          clear hown1 hb1 hfar1 hown2 hb2 hfar2 xe0 xe1
          go_wp2_with (first | (at_builtin; refine wpList_append_items W.heap.size _ W rfl _ _ rfl v2 ([] ++ r.take c ++ [x]) ([]) rfl HO2.out (some _) _ _ rfl (by first | exact hdl | simp) (fun hh => by cases hh) (itemsIn_nil _ _) hbd (Nat.le_refl _) HB2.out ?_) | fail)
          intro v3 w3 hown3 hb3
          have HE : Hid (Lst w3 v3 (insL r x) ∧ Below w.heap.size w w3) := by
            have h1 := hown3.lst
            rw [HEX.out]
            exact ⟨by simpa using h1, below_step HB1.out hb3⟩
          clear hown3 hb3 HO2 HB2
          go_wp2_with fail
          go_ret
          exact ⟨⟨v3, rfl, HE.out.1⟩, HE.out.2⟩
      · go_wp2_with fail
        go_quiet (fail)
        have HB1 := Lib.hid (below_step HB0.out (below_drewN H.out.1 nq))
        have HI1 := Lib.hid (HI.out.on HB1.out)
        have hx1 := ((below_drewN H.out.1 nq).block _ (blk_lt HX0.out)).trans HX0.out
        have xd0 := cell_of (o := 0) hx1 rfl
        have xd1 := cell_of (o := 1) hx1 rfl
        clear hx1 xc0 xc1 HB0 HX0 HW0
        go_wp2_with fail
        generalize wr.drewN nq = W at *
        have xe0 : ∀ W', Below W.heap.size W W' → W'.cell? ⟨w.heap.size, 0, none⟩ = some (.int .i64 xi) := fun W' hW => (hW.cell (block_lt_of_cell xd0)).trans xd0
        have xe1 : ∀ W', Below W.heap.size W W' → W'.cell? ⟨w.heap.size, 1, none⟩ = some (.int .i64 xr) := fun W' hW => (hW.cell (block_lt_of_cell xd1)).trans xd1
        have htl : (r.take k).length = k := by rw [List.length_take, ← HL.out]; omega
        have hdl : ([] : List Sl).length = k - k := by simp
        have hbd : ([] ++ r.take k ++ [x]).length + ([] : List Sl).length ≤ 4000000 := by rw [List.length_append, List.length_append, htl, hdl]; simp; omega
        clear xd0 xd1
        refine wp_region_noPanic ?_
        go_region_held_law (fun W' => Below W.heap.size W W') (first | assumption | exact below_drew _ | exact Below.alloc (by assumption) (by first | exact Nat.le_refl _ | exact (Below.size (by assumption))) _)
          (first
            | (refine step_append_items W.heap.size _ W rfl _ _ rfl (.slice none 0 0) [] (r.take k) rfl (ownI_nil _ _) (some ⟨b, o, none⟩) k c rfl htl (fun hh => by cases hh) ((HI1.out.on (by first | assumption | exact below_drew _)).take k) (by simp; omega) (Nat.le_refl _) (by first | assumption | exact below_drew _) ?_; intro v1 w1 hown1 hb1 hfar1)
            | (refine step_append_items W.heap.size _ W rfl _ _ rfl v1 ([] ++ r.take k) [x] rfl (hown1.on (by first | exact Below.refl _ _ | exact (Below.refl _ _).alloc (Nat.le_refl _) _)) (some ⟨_, 0, none⟩) 1 1 rfl rfl (fun hh => by cases hh) (by first | exact one_item _ x xi xr HX.out _ | exact one_item W.drew x xi xr HX.out _ | exact one_item_far HX.out hfar1 | exact one_item_far (w := W.drew) HX.out hfar1) (by simp; omega) (Nat.le_refl _) (by first | assumption | exact Below.alloc (by assumption) (by exact Below.size (by assumption)) _) ?_; intro v2 w2 hown2 hb2 hfar2))
        all_goals
          refine NoPanic.normal ?_
          have HO2 := Lib.hid hown2
          have HB2 := Lib.hid hb2
          clear hown1 hb1 hfar1 hown2 hb2 hfar2 xe0 xe1
          go_wp2_with (first | (at_builtin; refine wpList_append_items W.heap.size _ W rfl _ _ rfl v2 ([] ++ r.take k ++ [x]) ([]) rfl HO2.out (some _) _ _ rfl (by first | exact hdl | simp) (fun hh => by cases hh) (itemsIn_nil _ _) hbd (Nat.le_refl _) HB2.out ?_) | fail)
          intro v3 w3 hown3 hb3
          have HE : Hid (Lst w3 v3 (insL r x) ∧ Below w.heap.size w w3) := by
            have h1 := hown3.lst
            rw [HEX.out]
            exact ⟨by simpa using h1, below_step HB1.out hb3⟩
          clear hown3 hb3 HO2 HB2
          go_wp2_with fail
          go_ret
          exact ⟨⟨v3, rfl, HE.out.1⟩, HE.out.2⟩
end Go.Proofs.YtnkdhipeklphaaaDoor
