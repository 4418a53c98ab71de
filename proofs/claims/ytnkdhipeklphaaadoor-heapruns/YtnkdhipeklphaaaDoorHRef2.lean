/- The walks of the document's in at no list, Push, Drop, Move. -/
import Derived.Test.YtnkdhipeklphaaaDoorHRef
import Derived.Deep.RegionLaw
namespace Go.Proofs.YtnkdhipeklphaaaDoor
open Go.RowKit Go.Sort

set_option maxHeartbeats 1000000 in
theorem rin_nil (x : Sl) (w : World) :
    Calls Tryd.prog 22 #[.slice none 0 0, .agg #[.int .i64 x.id, .int .i64 x.rank]] w fun e w' => (∃ v', e = .returned v' ∧ Lst w' v' [x]) ∧ Below w.heap.size w w' := by
  obtain ⟨xi, xr, hxi, hxr⟩ : ∃ xi xr, x.id = xi ∧ x.rank = xr := ⟨_, _, rfl, rfl⟩
  have HX : Hid (x.id = xi ∧ x.rank = xr) := ⟨hxi, hxr⟩
  rw [hxi, hxr]
  clear hxi hxr
  obtain ⟨W0, hW0⟩ : ∃ W0, W0 = w.alloc (.cells #[.int .i64 xi, .int .i64 xr] 40) := ⟨_, rfl⟩
  have HB0 : Hid (Below w.heap.size w W0) := by rw [hW0]; exact (Below.refl _ _).alloc (Nat.le_refl _) _
  have x0 : W0.heap[w.heap.size]? = some (.cells #[.int .i64 xi, .int .i64 xr] 40 (0, 0)) := by rw [hW0]; exact heap_alloc_new _ _
  have xd0 := cell_of (o := 0) x0 rfl
  have xd1 := cell_of (o := 1) x0 rfl
  have HW0 := Lib.hid hW0
  clear x0 hW0
  go_enter Tryd.func22, Tryd.ntmps22
  go_wp2_with fail
  rw [← HW0.out]
  refine wp_loop_rounds 1 ?_
  rw [rounds_succ]
  go_wp2_with fail
  go_quiet (fail)
  go_wp2_with fail
  have HB1 := Lib.hid (below_step HB0.out (below_drewN (Below.refl _ _) nq))
  have xe0' : (W0.drewN nq).cell? ⟨w.heap.size, 0, none⟩ = some (.int .i64 xi) := xd0
  have xe1' : (W0.drewN nq).cell? ⟨w.heap.size, 1, none⟩ = some (.int .i64 xr) := xd1
  clear xd0 xd1 HW0 HB0
  generalize W0.drewN nq = W at *
  have xe0 : ∀ W', Below W.heap.size W W' → W'.cell? ⟨w.heap.size, 0, none⟩ = some (.int .i64 xi) := fun W' hW => (hW.cell (block_lt_of_cell xe0')).trans xe0'
  have xe1 : ∀ W', Below W.heap.size W W' → W'.cell? ⟨w.heap.size, 1, none⟩ = some (.int .i64 xr) := fun W' hW => (hW.cell (block_lt_of_cell xe1')).trans xe1'
  clear xe0' xe1'
  refine wp_region_noPanic ?_
  go_region_held_law (fun W' => Below W.heap.size W W') (first | assumption | exact below_drew _ | exact Below.alloc (by assumption) (by first | exact Nat.le_refl _ | exact (Below.size (by assumption))) _)
    (first
      | (refine step_append_items W.heap.size _ W rfl _ _ rfl (.slice none 0 0) [] [] rfl (ownI_nil _ _) none 0 0 rfl rfl (fun _ => rfl) (itemsIn_nil _ _) (by simp) (Nat.le_refl _) (by first | assumption | exact below_drew _) ?_; intro v1 w1 hown1 hb1 hfar1)
      | (refine step_append_items W.heap.size _ W rfl _ _ rfl v1 ([] ++ []) [x] rfl (hown1.on (by first | exact Below.refl _ _ | exact (Below.refl _ _).alloc (Nat.le_refl _) _)) (some ⟨_, 0, none⟩) 1 1 rfl rfl (fun hh => by cases hh) (by first | exact one_item _ x xi xr HX.out _ | exact one_item W.drew x xi xr HX.out _ | exact one_item_far HX.out hfar1 | exact one_item_far (w := W.drew) HX.out hfar1) (by simp) (Nat.le_refl _) (by first | assumption | exact Below.alloc (by assumption) (by exact Below.size (by assumption)) _) ?_; intro v2 w2 hown2 hb2 hfar2))
  all_goals
    refine NoPanic.normal ?_
    have HO2 := Lib.hid hown2
    have HB2 := Lib.hid hb2
    clear hown1 hb1 hfar1 hown2 hb2 hfar2 xe0 xe1
    go_wp2_with (first | (at_builtin; refine wpList_append_items W.heap.size _ W rfl _ _ rfl v2 ([] ++ [] ++ [x]) [] rfl HO2.out none 0 0 rfl rfl (fun _ => rfl) (itemsIn_nil _ _) (by simp) (Nat.le_refl _) HB2.out ?_) | fail)
    intro v3 w3 hown3 hb3
    have HE : Hid (Lst w3 v3 [x] ∧ Below w.heap.size w w3) := ⟨by simpa using hown3.lst, below_step HB1.out hb3⟩
    clear hown3 hb3 HO2 HB2
    go_wp2_with fail
    go_ret
    exact ⟨⟨v3, rfl, HE.out.1⟩, HE.out.2⟩
/-- in, at whatever list. -/
theorem rin_ {w : World} {v : Value} {r : List Sl} (x : Sl) (h : Lst w v r) (hl : r.length ≤ 1000000) :
    Calls Tryd.prog 22 #[v, .agg #[.int .i64 x.id, .int .i64 x.rank]] w fun e w' => (∃ v', e = .returned v' ∧ Lst w' v' (insL r x)) ∧ Below w.heap.size w w' := by
  obtain ⟨a, c, rfl, h1, h2, h3, h4⟩ := h
  rcases h4 with ⟨rfl, rfl⟩ | ⟨b, o, cs, z, rfl, _⟩
  · obtain rfl := items_none h1
    exact rin_nil x w
  · exact rin_some b o r.length c r x w rfl h1 hl h2
theorem found_yes {r : List Sl} {id x : Int} {k : Nat} (h : Found r id x) (hk : k < r.length) (hid : (r[k]).id = id) (hu : ∀ x ∈ r, ∀ y ∈ r, x.id = y.id → x = y) (hs : Srt r) : x = k := by
  rcases h with ⟨_, h⟩ | ⟨j, rfl, hj, h⟩
  · exact absurd hid (h _ (List.getElem_mem hk))
  · have e := hu _ (List.getElem_mem hj) _ (List.getElem_mem hk) ((h hj).trans hid.symm)
    have hpw := List.pairwise_iff_getElem.1 hs
    rcases Nat.lt_trichotomy j k with hl | hl | hl
    · exact absurd (e ▸ hpw j k hj hk hl) (klt_irr _)
    · rw [hl]
    · exact absurd (e ▸ hpw k j hk hj hl) (klt_irr _)
theorem found_no {r : List Sl} {id x : Int} (h : Found r id x) (hno : ∀ y ∈ r, y.id ≠ id) : x = -1 := by
  rcases h with ⟨h, _⟩ | ⟨j, rfl, hj, h⟩
  · exact h
  · exact absurd (h hj) (hno _ (List.getElem_mem hj))
set_option maxHeartbeats 1000000 in
theorem rdrop_no (a : Option Addr) (L c : Nat) (id : Int) (w : World) (HF : Hid (Calls Tryd.prog 21 #[.slice a L c, .int .i64 id] w fun e w' => e = .returned (.int .i64 (-1)) ∧ Below w.heap.size w w')) :
    Calls Tryd.prog 11 #[.slice a L c, .int .i64 id] w fun e w' => e = .returned (.tuple #[.slice a L c, .int .i64 8]) ∧ Below w.heap.size w w' := by
  go_enter Tryd.func11, Tryd.ntmps11
  go_wp2_with fail
  refine HF.out.mono ?_
  rintro e w1 ⟨rfl, hb1⟩
  have HB := Lib.hid hb1
  clear hb1
  go_wp2_with fail
  go_ret2
  exact ⟨rfl, HB.out⟩
set_option maxHeartbeats 1000000 in
theorem rdrop_yes (b o L c k : Nat) (r : List Sl) (id : Int) (w : World) (HF : Hid (Calls Tryd.prog 21 #[.slice (some ⟨b, o, none⟩) L c, .int .i64 id] w fun e w' => e = .returned (.int .i64 (k : Int)) ∧ Below w.heap.size w w')) (HI : Hid (ItemsIn w (some ⟨b, o, none⟩) r)) (HL : Hid (L = r.length)) (hl : L ≤ 1000000) (hc : L ≤ c) (hk : k < L) :
    Calls Tryd.prog 11 #[.slice (some ⟨b, o, none⟩) L c, .int .i64 id] w fun e w' => (∃ v', e = .returned (.tuple #[v', .int .i64 0]) ∧ Lst w' v' (r.take k ++ r.drop (k + 1))) ∧ Below w.heap.size w w' := by
  have hk2 : (k : Int) + 1 ≤ (L : Int) := by omega
  have hk3 : (k : Int) + 1 ≤ (c : Int) := by omega
  have hk4 : (0 : Int) ≤ (k : Int) + 1 := by omega
  have hk5 : ((k : Int) + 1).toNat = k + 1 := by omega
  have hk6 : k + 1 ≤ L := by omega
  have hk7 : k + 1 ≤ c := by omega
  have hk8 : (k : Int) ≤ (c : Int) := by omega
  have hk9 : (k : Int) ≤ (L : Int) := by omega
  have hk10 : k ≤ c := by omega
  have hk11 : k ≤ L := by omega
  have hk12 : (k : Int) < (L : Int) := by omega
  have htl : (r.take k).length = k := by rw [List.length_take, ← HL.out]; omega
  have hdl : (r.drop (k + 1)).length = L - (k + 1) := by rw [List.length_drop, ← HL.out]
  have hbd : ([] ++ r.take k).length + (r.drop (k + 1)).length ≤ 4000000 := by rw [List.length_append, htl, hdl]; simp; omega
  have HDR : Hid (∀ W a', ItemsIn W (some ⟨b, o, none⟩) r → (a' = some ⟨b, o + (k + 1) * 2, none⟩ ∨ L = k + 1) → ItemsIn W a' (r.drop (k + 1))) := fun W a' h1 h2 => by
    rcases h2 with rfl | h2
    · exact h1.drop (k + 1)
    · rw [List.drop_eq_nil_of_le (by rw [← HL.out]; omega)]; exact itemsIn_nil _ _
  have hwr : IntKind.i64.wrap ((k : Int) + 1) = (k : Int) + 1 := by simp [IntKind.wrap, IntKind.bits, IntKind.signed]; omega
  by_cases hcL : c = k + 1
  · have HLk : Hid (L = k + 1) := by show L = k + 1; omega
    have hcd : (c = k + 1) = True := eq_true hcL
    clear hcL
    go_enter Tryd.func11, Tryd.ntmps11
    go_wp2_with fail
    refine HF.out.mono ?_
    rintro e W ⟨rfl, hb1⟩
    have HB1 := Lib.hid hb1
    have HI1 := Lib.hid (HI.out.on hb1)
    clear hb1
    go_wp2_with fail
    go_region_law (first
        | (refine step_append_items W.heap.size _ W rfl _ _ rfl v1 ([] ++ r.take k) (r.drop (k + 1)) (by simp [Act.eval]) hown1 (some ⟨b, o, none⟩) (L - (k + 1)) (c - (k + 1)) (by simp [Act.eval]) (by first | exact hdl | (simpa using hdl)) (fun hh => by cases hh) (HDR.out _ _ (HI1.out.on (by assumption)) (.inr HLk.out)) hbd (Nat.le_refl _) (by assumption) ?_; intro v2 w2 hown2 hb2 hfar2)
        | (refine step_append_items W.heap.size _ W rfl _ _ rfl (.slice none 0 0) [] (r.take k) (by simp [Act.eval, Act.put]) (ownI_nil _ _) (some ⟨b, o, none⟩) k c (by simp [Act.eval, Act.put]) htl (fun hh => by cases hh) ((HI1.out.on (by first | assumption | exact below_drew _)).take k) (by simp; omega) (Nat.le_refl _) (by first | assumption | exact below_drew _) ?_; intro v1 w1 hown1 hb1 hfar1))
    all_goals
      have HE : Hid (Lst w2 v2 (r.take k ++ r.drop (k + 1)) ∧ Below w.heap.size w w2) := ⟨by simpa using hown2.lst, below_step HB1.out hb2⟩
      clear hown1 hb1 hfar1 hown2 hb2 hfar2
      go_wp2_with fail
      go_ret2
      exact ⟨⟨v2, rfl, HE.out.1⟩, HE.out.2⟩
  · go_enter Tryd.func11, Tryd.ntmps11
    go_wp2_with fail
    refine HF.out.mono ?_
    rintro e W ⟨rfl, hb1⟩
    have HB1 := Lib.hid hb1
    have HI1 := Lib.hid (HI.out.on hb1)
    clear hb1
    go_wp2_with fail
    go_region_law (first
        | (refine step_append_items W.heap.size _ W rfl _ _ rfl v1 ([] ++ r.take k) (r.drop (k + 1)) (by simp [Act.eval]) hown1 (some ⟨b, o + (k + 1) * 2, none⟩) (L - (k + 1)) (c - (k + 1)) (by simp [Act.eval]) (by first | exact hdl | (simpa using hdl)) (fun hh => by cases hh) (HDR.out _ _ (HI1.out.on (by assumption)) (.inl rfl)) hbd (Nat.le_refl _) (by assumption) ?_; intro v2 w2 hown2 hb2 hfar2)
        | (refine step_append_items W.heap.size _ W rfl _ _ rfl (.slice none 0 0) [] (r.take k) (by simp [Act.eval, Act.put]) (ownI_nil _ _) (some ⟨b, o, none⟩) k c (by simp [Act.eval, Act.put]) htl (fun hh => by cases hh) ((HI1.out.on (by first | assumption | exact below_drew _)).take k) (by simp; omega) (Nat.le_refl _) (by first | assumption | exact below_drew _) ?_; intro v1 w1 hown1 hb1 hfar1))
    all_goals
      have HE : Hid (Lst w2 v2 (r.take k ++ r.drop (k + 1)) ∧ Below w.heap.size w w2) := ⟨by simpa using hown2.lst, below_step HB1.out hb2⟩
      clear hown1 hb1 hfar1 hown2 hb2 hfar2
      go_wp2_with fail
      go_ret2
      exact ⟨⟨v2, rfl, HE.out.1⟩, HE.out.2⟩
theorem Lst.sh {w : World} {v : Value} {r : List Sl} (h : Lst w v r) : ∃ a c, v = .slice a r.length c ∧ ItemsIn w a r := by
  obtain ⟨a, c, e, h1, _⟩ := h
  exact ⟨a, c, e, h1⟩
/-- Drop, at whatever list, of a number that is not there. -/
theorem rdropN {w : World} {v : Value} {r : List Sl} {id : Int} (h : Lst w v r) (hl : r.length ≤ 1000000) (hno : ∀ y ∈ r, y.id ≠ id) :
    Calls Tryd.prog 11 #[v, .int .i64 id] w fun e w' => e = .returned (.tuple #[v, .int .i64 8]) ∧ Below w.heap.size w w' := by
  obtain ⟨a, c, rfl, h1⟩ := h.sh
  exact rdrop_no a r.length c id w ((rfind_ a r.length c r id w rfl h1 hl).mono fun e w' ⟨⟨x, he, hf⟩, hb⟩ => ⟨by rw [he, found_no hf hno], hb⟩)
/-- .. of one that is there. -/
theorem rdropY {w : World} {v : Value} {r : List Sl} {id : Int} {k : Nat} (h : Lst w v r) (hl : r.length ≤ 1000000) (hk : k < r.length) (hid : (r[k]).id = id) (hu : ∀ x ∈ r, ∀ y ∈ r, x.id = y.id → x = y) (hs : Srt r) :
    Calls Tryd.prog 11 #[v, .int .i64 id] w fun e w' => (∃ v', e = .returned (.tuple #[v', .int .i64 0]) ∧ Lst w' v' (r.take k ++ r.drop (k + 1))) ∧ Below w.heap.size w w' := by
  obtain ⟨a, c, rfl, h1, h2, h3, h4⟩ := h
  rcases h4 with ⟨rfl, rfl⟩ | ⟨b, o, cs, z, rfl, _⟩
  · omega
  · exact rdrop_yes b o r.length c k r id w ((rfind_ _ r.length c r id w rfl h1 hl).mono fun e w' ⟨⟨x, he, hf⟩, hb⟩ => ⟨by rw [he, found_yes hf hk hid hu hs], hb⟩) h1 rfl hl h2 hk
set_option maxHeartbeats 1000000 in
theorem rpush_no (a : Option Addr) (L c : Nat) (id rank x : Int) (w : World) (hx : 0 ≤ x) (HF : Hid (Calls Tryd.prog 21 #[.slice a L c, .int .i64 id] w fun e w' => e = .returned (.int .i64 x) ∧ Below w.heap.size w w')) :
    Calls Tryd.prog 7 #[.slice a L c, .int .i64 id, .int .i64 rank] w fun e w' => e = .returned (.tuple #[.slice a L c, .int .i64 9]) ∧ Below w.heap.size w w' := by
  go_enter Tryd.func7, Tryd.ntmps7
  go_wp2_with fail
  refine HF.out.mono ?_
  rintro e w1 ⟨rfl, hb1⟩
  have HB := Lib.hid hb1
  clear hb1
  go_wp2_with fail
  go_ret2
  exact ⟨rfl, HB.out⟩
theorem rpushN {w : World} {v : Value} {r : List Sl} {id rank : Int} {k : Nat} (h : Lst w v r) (hl : r.length ≤ 1000000) (hk : k < r.length) (hid : (r[k]).id = id) (hu : ∀ x ∈ r, ∀ y ∈ r, x.id = y.id → x = y) (hs : Srt r) :
    Calls Tryd.prog 7 #[v, .int .i64 id, .int .i64 rank] w fun e w' => e = .returned (.tuple #[v, .int .i64 9]) ∧ Below w.heap.size w w' := by
  obtain ⟨a, c, rfl, h1⟩ := h.sh
  exact rpush_no a r.length c id rank k w (by omega) ((rfind_ a r.length c r id w rfl h1 hl).mono fun e w' ⟨⟨x, he, hf⟩, hb⟩ => ⟨by rw [he, found_yes hf hk hid hu hs], hb⟩)
set_option maxHeartbeats 1000000 in
theorem rpush_yes (a : Option Addr) (L c : Nat) (id rank : Int) (P : World → Value → Prop) (w : World) (HF : Hid (Calls Tryd.prog 21 #[.slice a L c, .int .i64 id] w fun e w' => e = .returned (.int .i64 (-1)) ∧ Below w.heap.size w w')) (HIN : Hid (∀ W, Below w.heap.size w W → Calls Tryd.prog 22 #[.slice a L c, .agg #[.int .i64 id, .int .i64 rank]] W fun e w' => (∃ v', e = .returned v' ∧ P w' v') ∧ Below W.heap.size W w')) :
    Calls Tryd.prog 7 #[.slice a L c, .int .i64 id, .int .i64 rank] w fun e w' => (∃ v', e = .returned (.tuple #[v', .int .i64 0]) ∧ P w' v') ∧ Below w.heap.size w w' := by
  go_enter Tryd.func7, Tryd.ntmps7
  go_wp2_with fail
  refine HF.out.mono ?_
  rintro e w1 ⟨rfl, hb1⟩
  have HB := Lib.hid hb1
  clear hb1
  go_wp2_with fail
  refine (HIN.out _ HB.out).mono ?_
  rintro e w2 ⟨⟨v', rfl, hp⟩, hb2⟩
  have HP := Lib.hid hp
  have HB2 := Lib.hid (below_step HB.out hb2)
  clear hp hb2
  go_wp2_with fail
  go_ret2
  exact ⟨⟨v', rfl, HP.out⟩, HB2.out⟩
theorem rpushY {w : World} {v : Value} {r : List Sl} (x : Sl) (h : Lst w v r) (hl : r.length ≤ 1000000) (hno : ∀ y ∈ r, y.id ≠ x.id) :
    Calls Tryd.prog 7 #[v, .int .i64 x.id, .int .i64 x.rank] w fun e w' => (∃ v', e = .returned (.tuple #[v', .int .i64 0]) ∧ Lst w' v' (insL r x)) ∧ Below w.heap.size w w' := by
  have h' := h
  obtain ⟨a, c, rfl, h1⟩ := h.sh
  exact rpush_yes a r.length c x.id x.rank (fun w' v' => Lst w' v' (insL r x)) w ((rfind_ a r.length c r x.id w rfl h1 hl).mono fun e w' ⟨⟨y, he, hf⟩, hb⟩ => ⟨by rw [he, found_no hf hno], hb⟩) (fun W hW => rin_ x (h'.on hW) hl)
set_option maxHeartbeats 1000000 in
theorem rmove_no (a : Option Addr) (L c : Nat) (id rank : Int) (w : World) (HF : Hid (Calls Tryd.prog 11 #[.slice a L c, .int .i64 id] w fun e w' => e = .returned (.tuple #[.slice a L c, .int .i64 8]) ∧ Below w.heap.size w w')) :
    Calls Tryd.prog 9 #[.slice a L c, .int .i64 id, .int .i64 rank] w fun e w' => e = .returned (.tuple #[.slice a L c, .int .i64 8]) ∧ Below w.heap.size w w' := by
  go_enter Tryd.func9, Tryd.ntmps9
  go_wp2_with fail
  refine HF.out.mono ?_
  rintro e w1 ⟨rfl, hb1⟩
  have HB := Lib.hid hb1
  clear hb1
  go_wp2_with fail
  go_ret2
  exact ⟨rfl, HB.out⟩
set_option maxHeartbeats 1000000 in
theorem rmove_yes (a : Option Addr) (L c : Nat) (id rank : Int) (D P : World → Value → Prop) (w : World) (HF : Hid (Calls Tryd.prog 11 #[.slice a L c, .int .i64 id] w fun e w' => (∃ v', e = .returned (.tuple #[v', .int .i64 0]) ∧ D w' v') ∧ Below w.heap.size w w')) (HIN : Hid (∀ W v, D W v → Calls Tryd.prog 22 #[v, .agg #[.int .i64 id, .int .i64 rank]] W fun e w' => (∃ v', e = .returned v' ∧ P w' v') ∧ Below W.heap.size W w')) :
    Calls Tryd.prog 9 #[.slice a L c, .int .i64 id, .int .i64 rank] w fun e w' => (∃ v', e = .returned (.tuple #[v', .int .i64 0]) ∧ P w' v') ∧ Below w.heap.size w w' := by
  go_enter Tryd.func9, Tryd.ntmps9
  go_wp2_with fail
  refine HF.out.mono ?_
  rintro e w1 ⟨⟨v1, rfl, hd⟩, hb1⟩
  have HB := Lib.hid hb1
  have HD := Lib.hid hd
  clear hb1 hd
  go_wp2_with fail
  refine (HIN.out _ _ HD.out).mono ?_
  rintro e w2 ⟨⟨v', rfl, hp⟩, hb2⟩
  have HP := Lib.hid hp
  have HB2 := Lib.hid (below_step HB.out hb2)
  clear hp hb2
  go_wp2_with fail
  go_ret2
  exact ⟨⟨v', rfl, HP.out⟩, HB2.out⟩
theorem rmoveN {w : World} {v : Value} {r : List Sl} {id rank : Int} (h : Lst w v r) (hl : r.length ≤ 1000000) (hno : ∀ y ∈ r, y.id ≠ id) :
    Calls Tryd.prog 9 #[v, .int .i64 id, .int .i64 rank] w fun e w' => e = .returned (.tuple #[v, .int .i64 8]) ∧ Below w.heap.size w w' := by
  have h' := h
  obtain ⟨a, c, rfl, h1⟩ := h.sh
  exact rmove_no a r.length c id rank w (rdropN h' hl hno)
theorem rmoveY {w : World} {v : Value} {r : List Sl} {id : Int} {k : Nat} (x : Sl) (h : Lst w v r) (hl : r.length ≤ 1000000) (hk : k < r.length) (hid : (r[k]).id = id) (hx : x.id = id) (hu : ∀ x ∈ r, ∀ y ∈ r, x.id = y.id → x = y) (hs : Srt r) :
    Calls Tryd.prog 9 #[v, .int .i64 id, .int .i64 x.rank] w fun e w' => (∃ v', e = .returned (.tuple #[v', .int .i64 0]) ∧ Lst w' v' (insL (r.take k ++ r.drop (k + 1)) x)) ∧ Below w.heap.size w w' := by
  have h' := h
  obtain ⟨a, c, rfl, h1⟩ := h.sh
  refine rmove_yes a r.length c id x.rank (fun w' v' => Lst w' v' (r.take k ++ r.drop (k + 1))) (fun w' v' => Lst w' v' (insL (r.take k ++ r.drop (k + 1)) x)) w (rdropY h' hl hk hid hu hs) (fun W v hd => ?_)
  rw [← hx]
  exact rin_ x hd (by rw [List.length_append, List.length_take, List.length_drop]; omega)
end Go.Proofs.YtnkdhipeklphaaaDoor
