/- The walk of the law DiskSafe. -/
import Derived.Test.YtdcanhcejhaccaaDoorArmedWalk
import Derived.Test.YtdcanhcejhaccaaDoorDActs
namespace Go.Proofs.YtdcanhcejhaccaaDoor
open Go.RowKit Go.Sort Go.Maps

/-- The device of the law: two regions of eight sectors, neither armed nor crashed. -/
structure OpD (d : Dev) : Prop where
  r : d.r = 2
  s : d.s = 8
  armed : d.armed = false
  crashed : d.crashed = false
theorem op_new : OpD (newD 2 8) := ⟨rfl, rfl, rfl, rfl⟩
theorem op_has {d : Dev} (h : OpD d) {g : Int} (hg : g = 0 ∨ g = 1) (s : Nat) (hs : s < 8) : hasD d (g, (s : Int)) := by
  unfold hasD; rw [h.r, h.s]; simp only; omega
theorem op_write {d : Dev} (h : OpD d) {k : Pl} (hk : hasD d k) {xs : List Nat} (hx : xs.length ≤ 64) : writeD d k xs = doneD d k (fillC xs) := by
  unfold writeD
  rw [if_neg (fun e => by rcases e with e | e | e; exact e hk; omega; rw [h.crashed] at e; cases e)]
theorem op_done {d : Dev} (h : OpD d) (k : Pl) (c : Ct) : OpD (doneD d k c) := by
  refine ⟨h.r, h.s, h.armed, ?_⟩
  show (d.crashed || (d.armed && _)) = false
  rw [h.crashed, h.armed]; rfl
theorem op_err {d : Dev} (h : OpD d) {k : Pl} (hk : hasD d k) {n : Nat} (hn : n ≤ 64) : wErr d k n = 0 := by
  unfold wErr
  rw [if_neg (fun e => e hk), if_neg (by omega), if_neg (by rw [h.crashed]; simp), if_neg (by rw [h.armed]; simp)]
/-- A row of numbers of one's own, more of them laid behind. -/
theorem info3 : (Tryd.prog.info? 3).map (fun i => (i.zero, i.size, i.bytes)) = some (some (.int .i64 0), 1, 8) := by kernel_rfl
theorem wpList_append_ints (w : World) {ops : Array Oper} {rest : List Oper} {o : Oper} {act : Act} {Q : Exit → Act → World → Prop} (hgd : o.guard = none) (s x : Operand)
    (ho : o.op = .call { callee := .builtin .append, args := #[s, x], argTypes := #[40, 40] }) (hs : act.eval s = .slice none 0 0)
    (a : Option Addr) (zs : List Int) (m c' : Nat) (hx : act.eval x = .slice a m c') (hm : zs.length = m) (hnil : a = none → c' = 0) (hin : IntsIn w a zs) (hbytes : zs.length * 8 ≤ 140737488355328)
    (hK : ∀ a' c2 w', IntsIn w' a' zs → (∀ b o, a' = some ⟨b, o, none⟩ → w.heap.size ≤ b) → Below w.heap.size w w' → wpList Tryd.prog ops Q rest (act.put o.dst (.slice a' m c2)) w') : wpList Tryd.prog ops Q (o :: rest) act w := by
  obtain ⟨i0, hi, hz0, hz1, hz2⟩ := info_parts info3
  subst hm
  refine wpList_plain hgd fun K hKK => ?_
  have hown := World.ownsRow_nil w w.heap.size 3 1
  cases a with
  | none =>
    have hz : zs = [] := by
      cases zs with
      | nil => rfl
      | cons z r => obtain ⟨b, o, e, _⟩ := hin 0 (by simp); cases e
    subst hz
    obtain rfl := hnil rfl
    have hrun := run_append_owned_none (P := Tryd.prog) w w.heap.size 40 o.type 3 i0 1 Tryd.underlying40 hi _ _ _ hown
    unfold Oper.wp
    simp only [List.length_nil] at hx
    simp [execOp, ho, resolve, invoke, builtin, hs, hx, hrun, Result.andThen]
    exact hKK _ _ (hK none 0 w (intsIn_nil _ _) (fun b o e => by cases e) (Below.refl _ _))
  | some ad =>
    have hnews : ∀ j u, (zs.map (Value.int .i64))[j]? = some u → w.cell? (ad.add j) = some u := by
      intro j u hj
      have hl : j < zs.length := by
        rcases Nat.lt_or_ge j zs.length with h | h
        · exact h
        · rw [List.getElem?_eq_none (by simpa using h)] at hj; cases hj
      obtain ⟨b, o, e, h1⟩ := hin j hl
      cases e
      rw [Addr.add_lit, h1]
      simp [List.getElem?_map, List.getElem?_eq_getElem hl] at hj
      rw [hj]
    obtain ⟨v', w', hr, h2, h3, _⟩ := run_append_own_at (P := Tryd.prog) w w.heap.size 40 o.type 3 i0 (.int .i64 0) 1 8 Tryd.underlying40 hi hz0 hz1 hz2 rfl (by decide) _ 0 [] hown ad zs.length c' (zs.map (Value.int .i64)) (by simp) hnews (by intro u hu; obtain ⟨z, _, rfl⟩ := List.mem_map.1 hu; rfl) (by unfold maxLen; omega) (by omega) (Nat.le_refl _)
    unfold Oper.wp execOp
    simp only [ho, resolve, invoke, builtin, Sem.run_bind, Sem.run_pure, Result.andThen_ok, List.map_toArray, List.map_cons, List.map_nil, hs, hx, hr]
    refine hKK _ _ ?_
    have hB : Below w.heap.size w w' := (Below.refl _ w).grown h3 (Nat.le_refl _) (fun k hk => by simp [Value.ownBlock] at hk)
    rw [Nat.zero_add, List.nil_append] at h2
    rcases h2.2 with ⟨rfl, e⟩ | ⟨g, cap, cur, rfl, q1, q2, _, _, q5, q6⟩
    · have hz : zs = [] := List.eq_nil_of_length_eq_zero e
      subst hz
      exact hK none 0 w' (intsIn_nil _ _) (fun b o e => by cases e) hB
    · refine hK (some ⟨g, 0, none⟩) cap w' (fun i hi => ⟨g, 0, rfl, ?_⟩) (fun b o e => by cases e; exact q1) hB
      have := World.ownsRow.cellAt h2 i (by omega)
      rw [Nat.zero_add, this]
      simp [List.getElem?_map, List.getElem?_eq_getElem hi]
theorem mod_at2 (q : Int) (hq : 0 < q) (hq2 : q ≤ 1000) (k : Int) : ∃ m : Nat, wrap64 ((IntKind.u64.wrap k).tmod q) = (m : Int) ∧ IntKind.i64.wrap ((IntKind.u64.wrap k).tmod q) = (m : Int) ∧ (m : Int) < q := by
  obtain ⟨m, h1, h2⟩ := mod_at q hq hq2 k
  refine ⟨m, h1, ?_, h2⟩
  rw [← h1]
  simp [IntKind.wrap, IntKind.bits, IntKind.signed, wrap64]
  generalize (k % 18446744073709551616).tmod q = r
  split <;> omega
theorem clone_nil (w : World) : Calls Tryd.prog 15 #[.pointer none] w fun e w' => e = .returned (.pointer none) ∧ w' = w := by
  go_enter Tryd.func15, Tryd.ntmps15
  go_wp2_with fail
  go_ret
  exact ⟨rfl, rfl⟩
theorem got_of {w : World} {d : Dev} {k : Pl} {c : Ct} {e : Ending} {w' : World} (h : ReadsTo w d k e w') (hr : rErr d k = 0 ∧ readD d k = c) : GotC w c e w' := by
  rcases h with ⟨_, h⟩ | ⟨h, _⟩
  · rw [hr.2] at h; exact h
  · exact absurd hr.1 h
theorem cut_made {w : World} {a : Option Addr} {xs : List Nat} {n c : Nat} (h : BytesIn w a xs) (hn : xs.length = n) (hc : a = none → c = 0) (hnc : n ≤ c) : Calls Tryd.prog 21 #[.slice a n c] w fun e w' => ∃ a' m c', e = .returned (.slice a' m c') ∧ (xs.take 64).length = m ∧ BytesIn w' a' (xs.take 64) ∧ Below w.heap.size w w' :=
  (cut_ a xs n c w h hn hc hnc).mono fun _ _ ⟨a', c', h1, _, h3, _, h5⟩ => ⟨a', _, c', h1, rfl, h3, h5⟩
theorem take_len (xs : List Nat) : (xs.take 64).length ≤ 64 := by rw [List.length_take]; omega
theorem take_lt {xs : List Nat} (h : ∀ x ∈ xs, x < 256) : ∀ x ∈ xs.take 64, x < 256 := fun x hx => h x (List.mem_of_mem_take hx)
/-- The first loop under way. -/
def Safe1 (w wr : World) (i : Nat) : Prop := ∃ d, DevIn wr (w.heap.size + 2) w.heap.size (w.heap.size + 1) d i ∧ OpD d ∧ Below w.heap.size w wr
/-- The second: what the sector at reads as. -/
def Safe2 (w wr : World) (at' g : Nat) (c : Ct) (i : Nat) : Prop := ∃ d, DevIn wr (w.heap.size + 2) w.heap.size (w.heap.size + 1) d (30 + 2 * i) ∧ OpD d ∧ getP d.pend (0, (at' : Int)) = none ∧ d.safe (0, (at' : Int)) = c ∧ w.heap.size + 2 < g ∧ wr.heap[g]? = some (.cells (vals c).toArray 5 (0, 0)) ∧ Below w.heap.size w wr
set_option maxRecDepth 100000 in
set_option maxHeartbeats 8000000 in
theorem safe_ (a : Option Addr) (n c : Nat) (f : Nat → ActV) (sec : Int) (ca : Option Addr) (cs : List Int) (cn cc : Nat) (w : World) (hin : ActsAt w a n f) (hci : IntsIn w ca cs) (hcn : cs.length = cn) (hcz : ca = none → cc = 0) (hcl : cs.length * 8 ≤ 140737488355328) (hE : ErrType w) :
    Calls Tryd.prog 4 #[.slice a n c, .int .i64 sec, .slice ca cn cc] w fun e w' => e = .returned (.bool true) ∧ Below w.heap.size w w' := by
  obtain ⟨s0, hs0, hs8⟩ := mod_at 8 (by omega) (by omega) sec
  have HN := Lib.hid (new_ 2 8 w (by omega))
  have HE := Lib.hid hE
  have HI := Lib.hid hin
  have HC := Lib.hid (And.intro hci (And.intro hcn (And.intro hcz hcl)))
  clear hE hin hci hcn hcz hcl
  go_enter Tryd.func4, Tryd.ntmps4
  go_wp2_with fail
  refine HN.out.mono ?_
  rintro e w1 ⟨rfl, hb1, hd1⟩
  have H1 : Hid (Safe1 w w1 0) := ⟨_, hd1, op_new, hb1⟩
  clear hb1 hd1 HN
  unfold pt
  go_wp2_with fail
  simp only [hs0]
  clear hs0
  go_loopw [10] (fun iv wr => ∃ i : Nat, iv = .int .i64 i ∧ i ≤ n ∧ i ≤ 30 ∧ Hid (Safe1 w wr i)) (fun iv _ => 30 - (intOf iv).toNat)
  case atStart => exact ⟨0, rfl, by omega, by omega, H1⟩
  case round =>
    obtain ⟨i, rfl, hin, hi30, HS⟩ := hrel
    by_cases hgo : i < n ∧ i < 30
    · have q1 : decide ((i : Int) < (n : Int)) = true := decide_eq_true (by omega)
      have q2 : decide ((i : Int) < 30) = true := decide_eq_true (by omega)
      have q3 : (0 : Int) ≤ (i : Int) := by omega
      have q4 : (i : Int) < (n : Int) := by omega
      obtain ⟨d, hd, hop, hb⟩ := HS.out
      obtain ⟨b, o, hab, hx⟩ := HI.out i hgo.1
      subst hab
      have hx' := hx.on hb
      have hbw : b < w.heap.size := block_lt_of_cell hx.c0
      obtain ⟨s, hs, hsI, hs8'⟩ := mod_at2 8 (by omega) (by omega) (f i).at'
      generalize hav : (f i).at' = av at hs hsI
      have F2 : Hid (∀ V, Fd (w.heap.size + 2) w.heap.size (w.heap.size + 1) wr V → V.cell? ⟨b, o + i * 5 + 2, none⟩ = some (.int .i64 av)) := fun V hV => hav ▸ hV.cell hd hx'.c2 (by omega)
      have F3 : Hid (∀ V, Fd (w.heap.size + 2) w.heap.size (w.heap.size + 1) wr V → V.cell? ⟨b, o + i * 5 + 3, none⟩ = some (.slice (f i).da (f i).dxs.length (f i).dc)) := fun V hV => hV.cell hd hx'.c3 (by omega)
      have HCt : Hid (∀ V, Below wr.heap.size wr V → Calls Tryd.prog 21 #[.slice (f i).da (f i).dxs.length (f i).dc] V fun e w' => ∃ a' m c', e = .returned (.slice a' m c') ∧ ((f i).dxs.take 64).length = m ∧ BytesIn w' a' ((f i).dxs.take 64) ∧ Below V.heap.size V w') := fun V hV => cut_made (hx'.data.on hV) rfl hx'.dn hx'.dl
      have HB8 := Lib.hid (take_lt hx'.byte)
      have HD := Lib.hid hd
      have HO := Lib.hid hop
      have HB := Lib.hid hb
      generalize (f i).dxs.length = dl at *
      generalize hys : (f i).dxs.take 64 = ys at *
      have HYS := Lib.hid hys
      clear hys
      generalize (f i).da = da at *
      generalize (f i).dc = dc at *
      have hiI : (i : Int) < 30 := by omega
      clear hd hop hb hx hx' HS hav
      go_wp2_with fail
      refine wp_region_noPanic ?_
      refine wp_region_held_drew (S := fun V => Fd (w.heap.size + 2) w.heap.size (w.heap.size + 1) wr V) (by kernel_rfl) (below_fd (below_drew _) _ _ _) (fun hHeld => ?_)
      refine take_at 0 (.pointer (some ⟨w.heap.size + 2, 0, none⟩)) rfl (by kernel_rfl) (by kernel_rfl) (by kernel_rfl) (fun _ _ _ h => h) (Or.inl ⟨by rfl, ?_⟩) (by assumption) ?_
      · intro V hSV; go_simp
      simp only [Act.put, List.setIfInBounds_toArray, List.set_cons_zero, List.set_cons_succ]
      refine take_at 1 (.slice (some ⟨b, o, none⟩) n c) rfl (by kernel_rfl) (by kernel_rfl) (by kernel_rfl) (fun _ _ _ h => h) (Or.inl ⟨by rfl, ?_⟩) (by assumption) ?_
      · intro V hSV; go_simp
      simp only [Act.put, List.setIfInBounds_toArray, List.set_cons_zero, List.set_cons_succ]
      refine take_at 2 (.int .i64 i) rfl (by kernel_rfl) (by kernel_rfl) (by kernel_rfl) (fun _ _ _ h => h) (Or.inl ⟨by rfl, ?_⟩) (by assumption) ?_
      · intro V hSV; go_simp
      simp only [Act.put, List.setIfInBounds_toArray, List.set_cons_zero, List.set_cons_succ]
      refine take_at 3 (.pointer (some ⟨b, o + i * 5, none⟩)) rfl (by kernel_rfl) (by kernel_rfl) (by kernel_rfl) (fun _ _ _ h => h) (Or.inl ⟨by rfl, ?_⟩) (by assumption) ?_
      · intro V hSV; go_simp
      simp only [Act.put, List.setIfInBounds_toArray, List.set_cons_zero, List.set_cons_succ]
      refine take_at 4 (.pointer (some ⟨b, o + i * 5 + 2, none⟩)) rfl (by kernel_rfl) (by kernel_rfl) (by kernel_rfl) (fun _ _ _ h => h) (Or.inl ⟨by rfl, ?_⟩) (by assumption) ?_
      · intro V hSV; go_simp
      simp only [Act.put, List.setIfInBounds_toArray, List.set_cons_zero, List.set_cons_succ]
      refine take_at 5 (.int .i64 av) rfl (by kernel_rfl) (by kernel_rfl) (by kernel_rfl) (fun _ _ _ h => h) (Or.inl ⟨by rfl, ?_⟩) (by assumption) ?_
      · intro V hSV; have e0 := F2.out V hSV; go_simp
      simp only [Act.put, List.setIfInBounds_toArray, List.set_cons_zero, List.set_cons_succ]
      refine take_at 6 (.int .u64 (IntKind.u64.wrap av)) rfl (by kernel_rfl) (by kernel_rfl) (by kernel_rfl) (fun _ _ _ h => h) (Or.inl ⟨by rfl, ?_⟩) (by assumption) ?_
      · intro V hSV; go_simp
      simp only [Act.put, List.setIfInBounds_toArray, List.set_cons_zero, List.set_cons_succ]
      refine take_at 7 (.int .u64 ((IntKind.u64.wrap av).tmod 8)) rfl (by kernel_rfl) (by kernel_rfl) (by kernel_rfl) (fun _ _ _ h => h) (Or.inl ⟨by rfl, ?_⟩) (by assumption) ?_
      · intro V hSV; go_simp
      simp only [Act.put, List.setIfInBounds_toArray, List.set_cons_zero, List.set_cons_succ]
      refine take_at 8 (.int .i64 (s : Int)) rfl (by kernel_rfl) (by kernel_rfl) (by kernel_rfl) (fun _ _ _ h => h) (Or.inl ⟨by rfl, ?_⟩) (by assumption) ?_
      · intro V hSV; go_simp
      simp only [Act.put, List.setIfInBounds_toArray, List.set_cons_zero, List.set_cons_succ]
      refine take_at 9 (.slice (some ⟨b, o, none⟩) n c) rfl (by kernel_rfl) (by kernel_rfl) (by kernel_rfl) (fun _ _ _ h => h) (Or.inl ⟨by rfl, ?_⟩) (by assumption) ?_
      · intro V hSV; go_simp
      simp only [Act.put, List.setIfInBounds_toArray, List.set_cons_zero, List.set_cons_succ]
      refine take_at 10 (.int .i64 i) rfl (by kernel_rfl) (by kernel_rfl) (by kernel_rfl) (fun _ _ _ h => h) (Or.inl ⟨by rfl, ?_⟩) (by assumption) ?_
      · intro V hSV; go_simp
      simp only [Act.put, List.setIfInBounds_toArray, List.set_cons_zero, List.set_cons_succ]
      refine take_at 11 (.pointer (some ⟨b, o + i * 5, none⟩)) rfl (by kernel_rfl) (by kernel_rfl) (by kernel_rfl) (fun _ _ _ h => h) (Or.inl ⟨by rfl, ?_⟩) (by assumption) ?_
      · intro V hSV; go_simp
      simp only [Act.put, List.setIfInBounds_toArray, List.set_cons_zero, List.set_cons_succ]
      refine take_at 12 (.pointer (some ⟨b, o + i * 5 + 3, none⟩)) rfl (by kernel_rfl) (by kernel_rfl) (by kernel_rfl) (fun _ _ _ h => h) (Or.inl ⟨by rfl, ?_⟩) (by assumption) ?_
      · intro V hSV; go_simp
      simp only [Act.put, List.setIfInBounds_toArray, List.set_cons_zero, List.set_cons_succ]
      refine take_at 13 (.slice da dl dc) rfl (by kernel_rfl) (by kernel_rfl) (by kernel_rfl) (fun _ _ _ h => h) (Or.inl ⟨by rfl, ?_⟩) (by assumption) ?_
      · intro V hSV; have e0 := F3.out V hSV; go_simp
      simp only [Act.put, List.setIfInBounds_toArray, List.set_cons_zero, List.set_cons_succ]
      refine wpAnyH_ready (rs := [14]) (by kernel_rfl) (by simp) ?_
      refine AllReadyH.cons rfl (fun KK hK => ?_) AllReadyH.nil
      go_simp
      go_wp2_with (first | (go_at_call 21; refine (HCt.out _ (below_drew _)).mono ?_; rintro e w2 ⟨a2, m2, c2, rfl, hm2, hi2, hb2⟩))
      refine hK.out _ _ ?_ (fun hHeld14 => ?_)
      · exact Fd.trans (by assumption) (below_fd hb2 _ _ _)
      clear hK KK
      have hB2 : Below wr.heap.size wr w2 := below_step (below_drew _) hb2
      have hk2 : hasD d (0, (s : Int)) := op_has HO.out (.inl rfl) s (by omega)
      have hm64 : m2 ≤ 64 := by rw [← hm2, ← HYS.out]; exact take_len _
      have HW : Hid (Calls Tryd.prog 17 #[.pointer (some ⟨w.heap.size + 2, 0, none⟩), .int .i64 0, .int .i64 (s : Int), .slice a2 m2 c2] w2 fun e w' => e = .returned .nilIface ∧ DevIn w' (w.heap.size + 2) w.heap.size (w.heap.size + 1) (doneD d (0, (s : Int)) (fillC ys)) (i + 1) ∧ Fd (w.heap.size + 2) w.heap.size (w.heap.size + 1) w2 w') :=
        (write_ (HD.out.on hB2) (0, (s : Int)) a2 ys m2 c2 hi2 hm2 HB8.out (by omega)).mono fun e w' ⟨h1, h2⟩ => ⟨h1.trans (by rw [op_err HO.out hk2 hm64]; rfl), by rw [← op_write HO.out hk2 (by omega)]; exact h2⟩
      have HF2 := Lib.hid hHeld14
      have HB2 := Lib.hid (below_step HB.out hB2)
      clear hi2 hb2 hB2 hk2 hm64 HCt F2 F3
      refine wpAnyH_ready (rs := [15]) (by kernel_rfl) (by simp) ?_
      refine AllReadyH.cons rfl (fun KK hK => ?_) AllReadyH.nil
      go_simp
      go_wp2_with (first | (go_at_call 17; refine HW.out.mono ?_; rintro e w3 ⟨rfl, hd3, hf3⟩))
      refine hK.out _ _ ?_ (fun hHeld15 => ?_)
      · exact Fd.trans HF2.out hf3
      clear hK KK
      refine wpAnyH_done (by kernel_rfl) ?_ _
      refine NoPanic.normal ?_
      have HR : Hid (Safe1 w w3 (i + 1)) := ⟨_, hd3, op_done HO.out _ _, below_step' HB2.out hf3⟩
      clear hd3 hf3 hHeld14 hHeld15 hHeld HW HF2 HB2 HD HO HB HB8
      go_wp2_with fail
      go_roundw
      case rel => exact ⟨i + 1, by go_num, by omega, by omega, HR⟩
      case measure => simp [intOf]; omega
    · by_cases hn1 : i < n
      · have q1 : decide ((i : Int) < (n : Int)) = true := decide_eq_true (by omega)
        have q2 : decide ((i : Int) < 30) = false := decide_eq_false (by omega)
        clear hgo
        obtain ⟨d1, hd1, hop1, hb1⟩ := HS.out
        have hser : sErr d1 0 = 0 := by unfold sErr; rw [if_neg (fun e => e ⟨by omega, by rw [hop1.r]; omega⟩), if_neg (by rw [hop1.crashed]; simp)]
        have hsy : syncD d1 0 = syncedD d1 0 := by unfold syncD; rw [if_pos hser]
        have HSy : Hid (Calls Tryd.prog 22 #[.pointer (some ⟨w.heap.size + 2, 0, none⟩), .int .i64 0] wr fun e w' => e = .returned .nilIface ∧ DevIn w' (w.heap.size + 2) w.heap.size (w.heap.size + 1) (syncedD d1 0) i ∧ Fd (w.heap.size + 2) w.heap.size (w.heap.size + 1) wr w') :=
          (sync_ hd1 0).mono fun e w' ⟨h1, h2⟩ => ⟨h1.trans (by rw [hser]; rfl), hsy ▸ h2⟩
        have HB1 := Lib.hid hb1
        have HO1 : Hid (OpD (syncedD d1 0)) := ⟨hop1.r, hop1.s, hop1.armed, hop1.crashed⟩
        have HG1 : Hid (getP (syncedD d1 0).pend (0, (s0 : Int)) = none) := by
          show getP (d1.pend.filter (fun x => decide (x.1.1 ≠ 0))) _ = none
          rw [getP_filter (fun p => decide (p.1 ≠ 0))]; rfl
        clear hd1 hop1 hb1 hser hsy HS H1
        generalize syncedD d1 0 = d2 at *
        go_wp2_with fail
        refine HSy.out.mono ?_
        rintro e w2 ⟨rfl, hd2, hf2⟩
        have HB2 := Lib.hid (below_step' HB1.out hf2)
        have hk2 : hasD d2 (0, (s0 : Int)) := op_has HO1.out (.inl rfl) s0 (by omega)
        obtain ⟨C, hC⟩ : ∃ C, d2.safe (0, (s0 : Int)) = C := ⟨_, rfl⟩
        have hrd : rErr d2 (0, (s0 : Int)) = 0 ∧ readD d2 (0, (s0 : Int)) = C := by
          refine ⟨by unfold rErr; rw [if_neg (fun e => e hk2), if_neg (by rw [HO1.out.crashed]; simp)], ?_⟩
          unfold readD; rw [HG1.out, hC]; rfl
        have HLC : Hid (C.length = 64) := by show C.length = 64; rw [← hC]; exact (hd2.ok.safe _).1
        have HD2 := Lib.hid (And.intro hd2 hC)
        have HR : Hid (Calls Tryd.prog 19 #[.pointer (some ⟨w.heap.size + 2, 0, none⟩), .int .i64 0, .int .i64 (s0 : Int)] w2 (GotC w2 C)) := (read_ hd2 (0, (s0 : Int))).mono fun e w' h => got_of h hrd
        clear hd2 hf2 HSy HB1 hk2 hrd hC
        go_wp2_with fail
        refine HR.out.mono ?_
        rintro e w3 ⟨g, rfl, hg3, hh3, hb3⟩
        have H3 : Hid (Safe2 w w3 s0 g C 0) := ⟨d2, (HD2.out.1.on hb3).mono (by omega) (by omega), HO1.out, HG1.out, HD2.out.2, Nat.lt_of_lt_of_le HD2.out.1.lts.1 hg3, hh3, below_step HB2.out hb3⟩
        clear hg3 hh3 hb3 HR HB2 HD2 HO1 HG1
        go_wp2_with fail
        go_loopw [13, 14] (fun iv _ wr2 => ∃ i2 : Nat, iv = .int .i64 i2 ∧ i2 ≤ n ∧ i2 ≤ 30 ∧ Hid (Safe2 w wr2 s0 g C i2)) (fun iv _ _ => 30 - (intOf iv).toNat)
        case atStart => exact ⟨0, rfl, by omega, by omega, H3⟩
        case round =>
          obtain ⟨i2, rfl, hin2, hi230, HS2⟩ := hrel
          by_cases hgo2 : i2 < n ∧ i2 < 30
          · have r1 : decide ((i2 : Int) < (n : Int)) = true := decide_eq_true (by omega)
            have r2 : decide ((i2 : Int) < 30) = true := decide_eq_true (by omega)
            have r3 : (0 : Int) ≤ (i2 : Int) := by omega
            have r4 : (i2 : Int) < (n : Int) := by omega
            obtain ⟨d, hd, hop, hgn, hsf, hgg, hgb, hb⟩ := HS2.out
            obtain ⟨b, o, hab, hx⟩ := HI.out i2 hgo2.1
            subst hab
            have HAx := Lib.hid hx
            have hx' := hx.on hb
            obtain ⟨s, hs, hsI, hs8'⟩ := mod_at2 8 (by omega) (by omega) (f i2).region
            have c1 := hx'.c1
            generalize (f i2).region = rv at c1 hs hsI
            have HX : Hid (DevIn wr (w.heap.size + 2) w.heap.size (w.heap.size + 1) d (30 + 2 * i2) ∧ OpD d ∧ getP d.pend (0, (s0 : Int)) = none ∧ d.safe (0, (s0 : Int)) = C ∧ w.heap.size + 2 < g ∧ wr.heap[g]? = some (.cells (vals C).toArray 5 (0, 0)) ∧ Below w.heap.size w wr) := ⟨hd, hop, hgn, hsf, hgg, hgb, hb⟩
            have c3 := hx'.c3
            have HCt : Hid (∀ V, Below w.heap.size w V → Calls Tryd.prog 21 #[.slice (f i2).da (f i2).dxs.length (f i2).dc] V fun e w' => ∃ a' m c', e = .returned (.slice a' m c') ∧ ((f i2).dxs.take 64).length = m ∧ BytesIn w' a' ((f i2).dxs.take 64) ∧ Below V.heap.size V w') := fun V hV => cut_made (hx.data.on hV) rfl hx.dn hx.dl
            have HB8 := Lib.hid (take_lt hx.byte)
            have HA3 : Hid (∀ V, Below w.heap.size w V → V.cell? ⟨b, o + i2 * 5 + 3, none⟩ = some (.slice (f i2).da (f i2).dxs.length (f i2).dc)) := fun V hV => (hx.on hV).c3
            have HT64 := Lib.hid (take_len (f i2).dxs)
            generalize (f i2).dxs.length = dl at *
            generalize (f i2).dxs.take 64 = ys at *
            generalize (f i2).da = da at *
            generalize (f i2).dc = dc at *
            clear hd hop hgn hsf hgg hgb hb hx hx' HS2 HAx
            have hl1 : hasD d (1, (s0 : Int)) := op_has HX.out.2.1 (.inr rfl) s0 (by omega)
            by_cases heq : s = s0
            · have k1 : ((s : Int) != (s0 : Int)) = false := by simp; omega
              have HEq := Lib.hid heq
              clear heq
              go_wp2_with fail
              refine (HCt.out wr HX.out.2.2.2.2.2.2).mono ?_
              rintro e w4 ⟨a4, m4, c4, rfl, hm4, hi4, hb4⟩
              have HW : Hid (Calls Tryd.prog 17 #[.pointer (some ⟨w.heap.size + 2, 0, none⟩), .int .i64 1, .int .i64 (s0 : Int), .slice a4 m4 c4] w4 fun e w' => e = .returned .nilIface ∧ DevIn w' (w.heap.size + 2) w.heap.size (w.heap.size + 1) (doneD d (1, (s0 : Int)) (fillC ys)) (30 + 2 * i2 + 1) ∧ Fd (w.heap.size + 2) w.heap.size (w.heap.size + 1) w4 w') :=
                (write_ (HX.out.1.on hb4) (1, (s0 : Int)) a4 ys m4 c4 hi4 hm4 HB8.out (by omega)).mono fun e w' ⟨h1, h2⟩ => ⟨h1.trans (by rw [op_err HX.out.2.1 hl1 (by have := HT64.out; omega)]; rfl), by rw [← op_write HX.out.2.1 hl1 (by have := HT64.out; omega)]; exact h2⟩
              have HB4 := Lib.hid (below_step HX.out.2.2.2.2.2.2 hb4)
              have HG4 : Hid (w4.heap[g]? = some (.cells (vals C).toArray 5 (0, 0))) := (hb4.block g (blk_lt HX.out.2.2.2.2.2.1)).trans HX.out.2.2.2.2.2.1
              clear hi4 hb4 HCt HA3
              go_wp2_with fail
              refine HW.out.mono ?_
              rintro e w5 ⟨rfl, hd5, hf5⟩
              have hgg := HX.out.2.2.2.2.1
              have HR : Hid (Safe2 w w5 s0 g C (i2 + 1)) := ⟨_, hd5.mono (by omega) (by omega), op_done HX.out.2.1 _ _, by
                show getP (putP d.pend (1, (s0 : Int)) (fillC ys)) (0, (s0 : Int)) = none
                rw [getP_put_other _ _ _ _ (by simp)]; exact HX.out.2.2.1, HX.out.2.2.2.1, hgg, (hf5.block g (blk_lt HG4.out) (by omega) (by omega) (by omega)).trans HG4.out, below_step' HB4.out hf5⟩
              clear hd5 hf5 HW HB4 HG4 HX hgg
              go_wp2_with fail
              go_roundw
              case rel => exact ⟨i2 + 1, by go_num, by omega, by omega, HR⟩
              case measure => simp [intOf]; omega
            · have k1 : ((s : Int) != (s0 : Int)) = true := by simp; omega
              have HEq := Lib.hid heq
              have hl0 : hasD d (0, (s : Int)) := op_has HX.out.2.1 (.inl rfl) s (by omega)
              clear heq
              go_wp2_with fail
              refine (HCt.out wr HX.out.2.2.2.2.2.2).mono ?_
              rintro e w4 ⟨a4, m4, c4, rfl, hm4, hi4, hb4⟩
              have HW : Hid (Calls Tryd.prog 17 #[.pointer (some ⟨w.heap.size + 2, 0, none⟩), .int .i64 0, .int .i64 (s : Int), .slice a4 m4 c4] w4 fun e w' => e = .returned .nilIface ∧ DevIn w' (w.heap.size + 2) w.heap.size (w.heap.size + 1) (doneD d (0, (s : Int)) (fillC ys)) (30 + 2 * i2 + 1) ∧ Fd (w.heap.size + 2) w.heap.size (w.heap.size + 1) w4 w') :=
                (write_ (HX.out.1.on hb4) (0, (s : Int)) a4 ys m4 c4 hi4 hm4 HB8.out (by omega)).mono fun e w' ⟨h1, h2⟩ => ⟨h1.trans (by rw [op_err HX.out.2.1 hl0 (by have := HT64.out; omega)]; rfl), by rw [← op_write HX.out.2.1 hl0 (by have := HT64.out; omega)]; exact h2⟩
              have HB4 := Lib.hid (below_step HX.out.2.2.2.2.2.2 hb4)
              have HG4 : Hid (w4.heap[g]? = some (.cells (vals C).toArray 5 (0, 0))) := (hb4.block g (blk_lt HX.out.2.2.2.2.2.1)).trans HX.out.2.2.2.2.2.1
              clear hi4 hb4 c3
              go_wp2_with fail
              refine HW.out.mono ?_
              rintro e w5 ⟨rfl, hd5, hf5⟩
              have hgg := HX.out.2.2.2.2.1
              have HB5 := Lib.hid (below_step' HB4.out hf5)
              have HG5 : Hid (w5.heap[g]? = some (.cells (vals C).toArray 5 (0, 0))) := (hf5.block g (blk_lt HG4.out) (by omega) (by omega) (by omega)).trans HG4.out
              have c3 := HA3.out w5 HB5.out
              have HO5 := Lib.hid (op_done HX.out.2.1 (0, (s : Int)) (fillC ys))
              have hl1' : hasD (doneD d (0, (s : Int)) (fillC ys)) (1, (s0 : Int)) := hl1
              have HD5 := Lib.hid hd5
              clear hd5 hf5 HW HB4 HG4
              go_wp2_with fail
              refine (HCt.out w5 HB5.out).mono ?_
              rintro e w6 ⟨a6, m6, c6, rfl, hm6, hi6, hb6⟩
              have HW : Hid (Calls Tryd.prog 17 #[.pointer (some ⟨w.heap.size + 2, 0, none⟩), .int .i64 1, .int .i64 (s0 : Int), .slice a6 m6 c6] w6 fun e w' => e = .returned .nilIface ∧ DevIn w' (w.heap.size + 2) w.heap.size (w.heap.size + 1) (doneD (doneD d (0, (s : Int)) (fillC ys)) (1, (s0 : Int)) (fillC ys)) (30 + 2 * i2 + 1 + 1) ∧ Fd (w.heap.size + 2) w.heap.size (w.heap.size + 1) w6 w') :=
                (write_ (HD5.out.on hb6) (1, (s0 : Int)) a6 ys m6 c6 hi6 hm6 HB8.out (by omega)).mono fun e w' ⟨h1, h2⟩ => ⟨h1.trans (by rw [op_err HO5.out hl1' (by have := HT64.out; omega)]; rfl), by rw [← op_write HO5.out hl1' (by have := HT64.out; omega)]; exact h2⟩
              have HB6 := Lib.hid (below_step HB5.out hb6)
              have HG6 : Hid (w6.heap[g]? = some (.cells (vals C).toArray 5 (0, 0))) := (hb6.block g (blk_lt HG5.out)).trans HG5.out
              clear hi6 hb6 HCt HA3 HB5 HG5 HD5
              go_wp2_with fail
              refine HW.out.mono ?_
              rintro e w7 ⟨rfl, hd7, hf7⟩
              have HR : Hid (Safe2 w w7 s0 g C (i2 + 1)) := ⟨_, hd7.mono (by omega) (by omega), op_done HO5.out _ _, by
                show getP (putP (putP d.pend (0, (s : Int)) (fillC ys)) (1, (s0 : Int)) (fillC ys)) (0, (s0 : Int)) = none
                rw [getP_put_other _ _ _ _ (by simp), getP_put_other _ _ _ _ (by intro e; simp only [Prod.mk.injEq, true_and] at e; exact HEq.out (by omega))]; exact HX.out.2.2.1, HX.out.2.2.2.1, hgg, (hf7.block g (blk_lt HG6.out) (by omega) (by omega) (by omega)).trans HG6.out, below_step' HB6.out hf7⟩
              clear hd7 hf7 HW HB6 HG6 HX hgg HO5
              go_wp2_with fail
              go_roundw
              case rel => exact ⟨i2 + 1, by go_num, by omega, by omega, HR⟩
              case measure => simp [intOf]; omega
          · by_cases hn2 : i2 < n
            · have r1 : decide ((i2 : Int) < (n : Int)) = true := decide_eq_true (by omega)
              have r2 : decide ((i2 : Int) < 30) = false := decide_eq_false (by omega)
              clear hgo2
              obtain ⟨d, hd, hop, hgn, hsf, hgg, hgb, hb⟩ := HS2.out
              have HX : Hid (DevIn wr (w.heap.size + 2) w.heap.size (w.heap.size + 1) d (30 + 2 * i2) ∧ OpD d ∧ getP d.pend (0, (s0 : Int)) = none ∧ d.safe (0, (s0 : Int)) = C ∧ w.heap.size + 2 < g ∧ wr.heap[g]? = some (.cells (vals C).toArray 5 (0, 0)) ∧ Below w.heap.size w wr) := ⟨hd, hop, hgn, hsf, hgg, hgb, hb⟩
              clear hd hop hgn hsf hgg hgb hb HS2
              go_wp2_with (first
                | (at_builtin; refine wpList_append_ints _ rfl _ _ rfl rfl ca cs cn cc rfl HC.out.2.1 HC.out.2.2.1 (HC.out.1.on HX.out.2.2.2.2.2.2) HC.out.2.2.2 ?_
                   intro a3 c3 w5 hi5 hl5 hb5
                   have H5 := Lib.hid (And.intro hi5 (And.intro hl5 hb5))
                   clear hi5 hl5 hb5)
                | fail)
              have hd5 := HX.out.1.on H5.out.2.2
              have HB5 := Lib.hid (below_step HX.out.2.2.2.2.2.2 H5.out.2.2)
              have hg5 := (H5.out.2.2.block g (blk_lt HX.out.2.2.2.2.2.1)).trans HX.out.2.2.2.2.2.1
              have HRs : Hid (Calls Tryd.prog 16 #[.pointer (some ⟨w.heap.size + 2, 0, none⟩), .slice a3 cn c3] w5 fun e w' => e = .returned (.tuple #[]) ∧ DevIn w' (w.heap.size + 2) w.heap.size (w.heap.size + 1) (restartD d cs) (30 + 2 * i2) ∧ Fd (w.heap.size + 2) w.heap.size (w.heap.size + 1) w5 w') :=
                restart_ hd5 a3 cs cn c3 HC.out.2.1 H5.out.1 (fun b o e => by have := H5.out.2.1 b o e; have := HX.out.1.lts.1; omega) (by have := HC.out.2.2.2; have := HC.out.2.1; omega)
              have HG5 := Lib.hid (And.intro hg5 HX.out.2.2.2.2.1)
              have hk : hasD (restartD d cs) (0, (s0 : Int)) := op_has (d := d) HX.out.2.1 (.inl rfl) s0 (by omega)
              have hrd : rErr (restartD d cs) (0, (s0 : Int)) = 0 ∧ readD (restartD d cs) (0, (s0 : Int)) = C := by
                refine ⟨by unfold rErr; rw [if_neg (fun e => e hk)]; rfl, ?_⟩
                show (getP [] _).getD (goR d.safe d.pend cs (0, (s0 : Int))) = C
                rw [goR_other _ _ _ _ HX.out.2.2.1, HX.out.2.2.2.1]; rfl
              have HRD := Lib.hid hrd
              clear hd5 hg5 hk hrd H5 HX
              refine HRs.out.mono ?_
              rintro e w6 ⟨rfl, hd6, hf6⟩
              have HB6 := Lib.hid (below_step' HB5.out hf6)
              have HG6 : Hid (w6.heap[g]? = some (.cells (vals C).toArray 5 (0, 0))) := (hf6.block g (blk_lt HG5.out.1) (by have := HG5.out.2; omega) (by have := HG5.out.2; omega) (by have := HG5.out.2; omega)).trans HG5.out.1
              have HR : Hid (Calls Tryd.prog 19 #[.pointer (some ⟨w.heap.size + 2, 0, none⟩), .int .i64 0, .int .i64 (s0 : Int)] w6 (GotC w6 C)) := (read_ hd6 (0, (s0 : Int))).mono fun e w' h => got_of h HRD.out
              clear hd6 hf6 HRs HB5 HG5 HRD
              go_wp2_with fail
              refine HR.out.mono ?_
              rintro e w7 ⟨g7, rfl, hg7, hh7, hb7⟩
              have HB7 := Lib.hid (below_step HB6.out hb7)
              have b1 := Lib.hid (ct_bytes 5 ((hb7.block g (blk_lt HG6.out)).trans HG6.out))
              have b2 := Lib.hid (ct_bytes 5 hh7)
              clear hg7 hh7 hb7 HR HB6 HG6
              have HRn : Hid (Calls Tryd.prog 19 #[.pointer none, .int .i64 0, .int .i64 0] w7 fun e w' => e = .returned (.tuple #[.slice none 0 0, .iface 62 (.int .i64 1)]) ∧ Below w7.heap.size w7 w') := read_nil (0, 0) w7
              go_wp2_with fail
              refine HRn.out.mono ?_
              rintro e w8 ⟨rfl, hb8⟩
              have HB8 := Lib.hid (below_step HB7.out hb8)
              have C1 : (convert 39 9 (.slice (some ⟨g, 0, none⟩) 64 64)).run Tryd.prog w8 = .ok (.string (bs C)) w8 := conv_ w8 _ 64 64 C HLC.out.symm (b1.out.on hb8)
              have C2 : (convert 39 9 (.slice (some ⟨g7, 0, none⟩) 64 64)).run Tryd.prog w8 = .ok (.string (bs C)) w8 := conv_ w8 _ 64 64 C HLC.out.symm (b2.out.on hb8)
              have HN8 := Lib.hid (num11 1 w8 (HE.out.on HB8.out))
              clear hb8 HB7 b1 b2 HRn
              generalize bs C = sC at *
              go_wp2_with fail
              refine HN8.out.mono ?_
              rintro e w9 ⟨rfl, hb9⟩
              have HB9 := Lib.hid (below_step HB8.out hb9)
              have HWn : Hid (Calls Tryd.prog 17 #[.pointer none, .int .i64 0, .int .i64 0, .slice none 0 0] w9 fun e w' => e = .returned (.iface 62 (.int .i64 1)) ∧ Below w9.heap.size w9 w') := write_nil (0, 0) none 0 0 w9
              clear hb9 HB8 HN8 C1 C2
              go_wp2_with fail
              refine HWn.out.mono ?_
              rintro e w10 ⟨rfl, hb10⟩
              have HB10 := Lib.hid (below_step HB9.out hb10)
              have HN10 := Lib.hid (num11 1 w10 (HE.out.on HB10.out))
              clear hb10 HB9 HWn
              go_wp2_with fail
              refine HN10.out.mono ?_
              rintro e w11 ⟨rfl, hb11⟩
              have HB11 := Lib.hid (below_step HB10.out hb11)
              have HSn : Hid (Calls Tryd.prog 22 #[.pointer none, .int .i64 0] w11 fun e w' => e = .returned (.iface 62 (.int .i64 1)) ∧ w' = w11) := sync_nil 0 w11
              have HN11 := Lib.hid (num11 1 w11 (HE.out.on HB11.out))
              clear hb11 HB10 HN10
              go_wp2_with fail
              refine HSn.out.mono ?_
              rintro e w11' ⟨rfl, rfl⟩
              go_wp2_with fail
              refine HN11.out.mono ?_
              rintro e w12 ⟨rfl, hb12⟩
              have HB12 := Lib.hid (below_step HB11.out hb12)
              have HAn : Hid (Calls Tryd.prog 23 #[.pointer none, .int .i64 1] w12 fun e w' => e = .returned (.iface 62 (.int .i64 1)) ∧ w' = w12) := arm_bad none 1 w12 (.inl rfl)
              have HN12 := Lib.hid (num11 1 w12 (HE.out.on HB12.out))
              clear hb12 HB11 HN11 HSn
              go_wp2_with fail
              refine HAn.out.mono ?_
              rintro e w12' ⟨rfl, rfl⟩
              go_wp2_with fail
              refine HN12.out.mono ?_
              rintro e w13 ⟨rfl, hb13⟩
              have HB13 := Lib.hid (below_step HB12.out hb13)
              have HCn := Lib.hid (crashed_nil w13)
              have HKn := Lib.hid (clone_nil w13)
              clear hb13 HB12 HN12 HAn
              go_wp2_with fail
              refine HCn.out.mono ?_
              rintro e w13' ⟨rfl, rfl⟩
              go_wp2_with fail
              refine HKn.out.mono ?_
              rintro e w13'' ⟨rfl, rfl⟩
              go_wp2_with fail
              refine (sure_ _).mono ?_
              rintro e w14 ⟨rfl, hb14⟩
              have HB14 := Lib.hid (below_step HB13.out hb14)
              clear hb14 HB13
              go_wp2_with fail
              go_ret
              exact ⟨rfl, HB14.out⟩
            · have r1 : decide ((i2 : Int) < (n : Int)) = false := decide_eq_false (by omega)
              clear hgo2
              obtain ⟨d, hd, hop, hgn, hsf, hgg, hgb, hb⟩ := HS2.out
              have HX : Hid (DevIn wr (w.heap.size + 2) w.heap.size (w.heap.size + 1) d (30 + 2 * i2) ∧ OpD d ∧ getP d.pend (0, (s0 : Int)) = none ∧ d.safe (0, (s0 : Int)) = C ∧ w.heap.size + 2 < g ∧ wr.heap[g]? = some (.cells (vals C).toArray 5 (0, 0)) ∧ Below w.heap.size w wr) := ⟨hd, hop, hgn, hsf, hgg, hgb, hb⟩
              clear hd hop hgn hsf hgg hgb hb HS2
              go_wp2_with (first
                | (at_builtin; refine wpList_append_ints _ rfl _ _ rfl rfl ca cs cn cc rfl HC.out.2.1 HC.out.2.2.1 (HC.out.1.on HX.out.2.2.2.2.2.2) HC.out.2.2.2 ?_
                   intro a3 c3 w5 hi5 hl5 hb5
                   have H5 := Lib.hid (And.intro hi5 (And.intro hl5 hb5))
                   clear hi5 hl5 hb5)
                | fail)
              have hd5 := HX.out.1.on H5.out.2.2
              have HB5 := Lib.hid (below_step HX.out.2.2.2.2.2.2 H5.out.2.2)
              have hg5 := (H5.out.2.2.block g (blk_lt HX.out.2.2.2.2.2.1)).trans HX.out.2.2.2.2.2.1
              have HRs : Hid (Calls Tryd.prog 16 #[.pointer (some ⟨w.heap.size + 2, 0, none⟩), .slice a3 cn c3] w5 fun e w' => e = .returned (.tuple #[]) ∧ DevIn w' (w.heap.size + 2) w.heap.size (w.heap.size + 1) (restartD d cs) (30 + 2 * i2) ∧ Fd (w.heap.size + 2) w.heap.size (w.heap.size + 1) w5 w') :=
                restart_ hd5 a3 cs cn c3 HC.out.2.1 H5.out.1 (fun b o e => by have := H5.out.2.1 b o e; have := HX.out.1.lts.1; omega) (by have := HC.out.2.2.2; have := HC.out.2.1; omega)
              have HG5 := Lib.hid (And.intro hg5 HX.out.2.2.2.2.1)
              have hk : hasD (restartD d cs) (0, (s0 : Int)) := op_has (d := d) HX.out.2.1 (.inl rfl) s0 (by omega)
              have hrd : rErr (restartD d cs) (0, (s0 : Int)) = 0 ∧ readD (restartD d cs) (0, (s0 : Int)) = C := by
                refine ⟨by unfold rErr; rw [if_neg (fun e => e hk)]; rfl, ?_⟩
                show (getP [] _).getD (goR d.safe d.pend cs (0, (s0 : Int))) = C
                rw [goR_other _ _ _ _ HX.out.2.2.1, HX.out.2.2.2.1]; rfl
              have HRD := Lib.hid hrd
              clear hd5 hg5 hk hrd H5 HX
              refine HRs.out.mono ?_
              rintro e w6 ⟨rfl, hd6, hf6⟩
              have HB6 := Lib.hid (below_step' HB5.out hf6)
              have HG6 : Hid (w6.heap[g]? = some (.cells (vals C).toArray 5 (0, 0))) := (hf6.block g (blk_lt HG5.out.1) (by have := HG5.out.2; omega) (by have := HG5.out.2; omega) (by have := HG5.out.2; omega)).trans HG5.out.1
              have HR : Hid (Calls Tryd.prog 19 #[.pointer (some ⟨w.heap.size + 2, 0, none⟩), .int .i64 0, .int .i64 (s0 : Int)] w6 (GotC w6 C)) := (read_ hd6 (0, (s0 : Int))).mono fun e w' h => got_of h HRD.out
              clear hd6 hf6 HRs HB5 HG5 HRD
              go_wp2_with fail
              refine HR.out.mono ?_
              rintro e w7 ⟨g7, rfl, hg7, hh7, hb7⟩
              have HB7 := Lib.hid (below_step HB6.out hb7)
              have b1 := Lib.hid (ct_bytes 5 ((hb7.block g (blk_lt HG6.out)).trans HG6.out))
              have b2 := Lib.hid (ct_bytes 5 hh7)
              clear hg7 hh7 hb7 HR HB6 HG6
              have HRn : Hid (Calls Tryd.prog 19 #[.pointer none, .int .i64 0, .int .i64 0] w7 fun e w' => e = .returned (.tuple #[.slice none 0 0, .iface 62 (.int .i64 1)]) ∧ Below w7.heap.size w7 w') := read_nil (0, 0) w7
              go_wp2_with fail
              refine HRn.out.mono ?_
              rintro e w8 ⟨rfl, hb8⟩
              have HB8 := Lib.hid (below_step HB7.out hb8)
              have C1 : (convert 39 9 (.slice (some ⟨g, 0, none⟩) 64 64)).run Tryd.prog w8 = .ok (.string (bs C)) w8 := conv_ w8 _ 64 64 C HLC.out.symm (b1.out.on hb8)
              have C2 : (convert 39 9 (.slice (some ⟨g7, 0, none⟩) 64 64)).run Tryd.prog w8 = .ok (.string (bs C)) w8 := conv_ w8 _ 64 64 C HLC.out.symm (b2.out.on hb8)
              have HN8 := Lib.hid (num11 1 w8 (HE.out.on HB8.out))
              clear hb8 HB7 b1 b2 HRn
              generalize bs C = sC at *
              go_wp2_with fail
              refine HN8.out.mono ?_
              rintro e w9 ⟨rfl, hb9⟩
              have HB9 := Lib.hid (below_step HB8.out hb9)
              have HWn : Hid (Calls Tryd.prog 17 #[.pointer none, .int .i64 0, .int .i64 0, .slice none 0 0] w9 fun e w' => e = .returned (.iface 62 (.int .i64 1)) ∧ Below w9.heap.size w9 w') := write_nil (0, 0) none 0 0 w9
              clear hb9 HB8 HN8 C1 C2
              go_wp2_with fail
              refine HWn.out.mono ?_
              rintro e w10 ⟨rfl, hb10⟩
              have HB10 := Lib.hid (below_step HB9.out hb10)
              have HN10 := Lib.hid (num11 1 w10 (HE.out.on HB10.out))
              clear hb10 HB9 HWn
              go_wp2_with fail
              refine HN10.out.mono ?_
              rintro e w11 ⟨rfl, hb11⟩
              have HB11 := Lib.hid (below_step HB10.out hb11)
              have HSn : Hid (Calls Tryd.prog 22 #[.pointer none, .int .i64 0] w11 fun e w' => e = .returned (.iface 62 (.int .i64 1)) ∧ w' = w11) := sync_nil 0 w11
              have HN11 := Lib.hid (num11 1 w11 (HE.out.on HB11.out))
              clear hb11 HB10 HN10
              go_wp2_with fail
              refine HSn.out.mono ?_
              rintro e w11' ⟨rfl, rfl⟩
              go_wp2_with fail
              refine HN11.out.mono ?_
              rintro e w12 ⟨rfl, hb12⟩
              have HB12 := Lib.hid (below_step HB11.out hb12)
              have HAn : Hid (Calls Tryd.prog 23 #[.pointer none, .int .i64 1] w12 fun e w' => e = .returned (.iface 62 (.int .i64 1)) ∧ w' = w12) := arm_bad none 1 w12 (.inl rfl)
              have HN12 := Lib.hid (num11 1 w12 (HE.out.on HB12.out))
              clear hb12 HB11 HN11 HSn
              go_wp2_with fail
              refine HAn.out.mono ?_
              rintro e w12' ⟨rfl, rfl⟩
              go_wp2_with fail
              refine HN12.out.mono ?_
              rintro e w13 ⟨rfl, hb13⟩
              have HB13 := Lib.hid (below_step HB12.out hb13)
              have HCn := Lib.hid (crashed_nil w13)
              have HKn := Lib.hid (clone_nil w13)
              clear hb13 HB12 HN12 HAn
              go_wp2_with fail
              refine HCn.out.mono ?_
              rintro e w13' ⟨rfl, rfl⟩
              go_wp2_with fail
              refine HKn.out.mono ?_
              rintro e w13'' ⟨rfl, rfl⟩
              go_wp2_with fail
              refine (sure_ _).mono ?_
              rintro e w14 ⟨rfl, hb14⟩
              have HB14 := Lib.hid (below_step HB13.out hb14)
              clear hb14 HB13
              go_wp2_with fail
              go_ret
              exact ⟨rfl, HB14.out⟩
      · have q1 : decide ((i : Int) < (n : Int)) = false := decide_eq_false (by omega)
        clear hgo
        obtain ⟨d1, hd1, hop1, hb1⟩ := HS.out
        have hser : sErr d1 0 = 0 := by unfold sErr; rw [if_neg (fun e => e ⟨by omega, by rw [hop1.r]; omega⟩), if_neg (by rw [hop1.crashed]; simp)]
        have hsy : syncD d1 0 = syncedD d1 0 := by unfold syncD; rw [if_pos hser]
        have HSy : Hid (Calls Tryd.prog 22 #[.pointer (some ⟨w.heap.size + 2, 0, none⟩), .int .i64 0] wr fun e w' => e = .returned .nilIface ∧ DevIn w' (w.heap.size + 2) w.heap.size (w.heap.size + 1) (syncedD d1 0) i ∧ Fd (w.heap.size + 2) w.heap.size (w.heap.size + 1) wr w') :=
          (sync_ hd1 0).mono fun e w' ⟨h1, h2⟩ => ⟨h1.trans (by rw [hser]; rfl), hsy ▸ h2⟩
        have HB1 := Lib.hid hb1
        have HO1 : Hid (OpD (syncedD d1 0)) := ⟨hop1.r, hop1.s, hop1.armed, hop1.crashed⟩
        have HG1 : Hid (getP (syncedD d1 0).pend (0, (s0 : Int)) = none) := by
          show getP (d1.pend.filter (fun x => decide (x.1.1 ≠ 0))) _ = none
          rw [getP_filter (fun p => decide (p.1 ≠ 0))]; rfl
        clear hd1 hop1 hb1 hser hsy HS H1
        generalize syncedD d1 0 = d2 at *
        go_wp2_with fail
        refine HSy.out.mono ?_
        rintro e w2 ⟨rfl, hd2, hf2⟩
        have HB2 := Lib.hid (below_step' HB1.out hf2)
        have hk2 : hasD d2 (0, (s0 : Int)) := op_has HO1.out (.inl rfl) s0 (by omega)
        obtain ⟨C, hC⟩ : ∃ C, d2.safe (0, (s0 : Int)) = C := ⟨_, rfl⟩
        have hrd : rErr d2 (0, (s0 : Int)) = 0 ∧ readD d2 (0, (s0 : Int)) = C := by
          refine ⟨by unfold rErr; rw [if_neg (fun e => e hk2), if_neg (by rw [HO1.out.crashed]; simp)], ?_⟩
          unfold readD; rw [HG1.out, hC]; rfl
        have HLC : Hid (C.length = 64) := by show C.length = 64; rw [← hC]; exact (hd2.ok.safe _).1
        have HD2 := Lib.hid (And.intro hd2 hC)
        have HR : Hid (Calls Tryd.prog 19 #[.pointer (some ⟨w.heap.size + 2, 0, none⟩), .int .i64 0, .int .i64 (s0 : Int)] w2 (GotC w2 C)) := (read_ hd2 (0, (s0 : Int))).mono fun e w' h => got_of h hrd
        clear hd2 hf2 HSy HB1 hk2 hrd hC
        go_wp2_with fail
        refine HR.out.mono ?_
        rintro e w3 ⟨g, rfl, hg3, hh3, hb3⟩
        have H3 : Hid (Safe2 w w3 s0 g C 0) := ⟨d2, (HD2.out.1.on hb3).mono (by omega) (by omega), HO1.out, HG1.out, HD2.out.2, Nat.lt_of_lt_of_le HD2.out.1.lts.1 hg3, hh3, below_step HB2.out hb3⟩
        clear hg3 hh3 hb3 HR HB2 HD2 HO1 HG1
        go_wp2_with fail
        go_loopw [13, 14] (fun iv _ wr2 => ∃ i2 : Nat, iv = .int .i64 i2 ∧ i2 ≤ n ∧ i2 ≤ 30 ∧ Hid (Safe2 w wr2 s0 g C i2)) (fun iv _ _ => 30 - (intOf iv).toNat)
        case atStart => exact ⟨0, rfl, by omega, by omega, H3⟩
        case round =>
          obtain ⟨i2, rfl, hin2, hi230, HS2⟩ := hrel
          by_cases hgo2 : i2 < n ∧ i2 < 30
          · have r1 : decide ((i2 : Int) < (n : Int)) = true := decide_eq_true (by omega)
            have r2 : decide ((i2 : Int) < 30) = true := decide_eq_true (by omega)
            have r3 : (0 : Int) ≤ (i2 : Int) := by omega
            have r4 : (i2 : Int) < (n : Int) := by omega
            obtain ⟨d, hd, hop, hgn, hsf, hgg, hgb, hb⟩ := HS2.out
            obtain ⟨b, o, hab, hx⟩ := HI.out i2 hgo2.1
            subst hab
            have HAx := Lib.hid hx
            have hx' := hx.on hb
            obtain ⟨s, hs, hsI, hs8'⟩ := mod_at2 8 (by omega) (by omega) (f i2).region
            have c1 := hx'.c1
            generalize (f i2).region = rv at c1 hs hsI
            have HX : Hid (DevIn wr (w.heap.size + 2) w.heap.size (w.heap.size + 1) d (30 + 2 * i2) ∧ OpD d ∧ getP d.pend (0, (s0 : Int)) = none ∧ d.safe (0, (s0 : Int)) = C ∧ w.heap.size + 2 < g ∧ wr.heap[g]? = some (.cells (vals C).toArray 5 (0, 0)) ∧ Below w.heap.size w wr) := ⟨hd, hop, hgn, hsf, hgg, hgb, hb⟩
            have c3 := hx'.c3
            have HCt : Hid (∀ V, Below w.heap.size w V → Calls Tryd.prog 21 #[.slice (f i2).da (f i2).dxs.length (f i2).dc] V fun e w' => ∃ a' m c', e = .returned (.slice a' m c') ∧ ((f i2).dxs.take 64).length = m ∧ BytesIn w' a' ((f i2).dxs.take 64) ∧ Below V.heap.size V w') := fun V hV => cut_made (hx.data.on hV) rfl hx.dn hx.dl
            have HB8 := Lib.hid (take_lt hx.byte)
            have HA3 : Hid (∀ V, Below w.heap.size w V → V.cell? ⟨b, o + i2 * 5 + 3, none⟩ = some (.slice (f i2).da (f i2).dxs.length (f i2).dc)) := fun V hV => (hx.on hV).c3
            have HT64 := Lib.hid (take_len (f i2).dxs)
            generalize (f i2).dxs.length = dl at *
            generalize (f i2).dxs.take 64 = ys at *
            generalize (f i2).da = da at *
            generalize (f i2).dc = dc at *
            clear hd hop hgn hsf hgg hgb hb hx hx' HS2 HAx
            have hl1 : hasD d (1, (s0 : Int)) := op_has HX.out.2.1 (.inr rfl) s0 (by omega)
            by_cases heq : s = s0
            · have k1 : ((s : Int) != (s0 : Int)) = false := by simp; omega
              have HEq := Lib.hid heq
              clear heq
              go_wp2_with fail
              refine (HCt.out wr HX.out.2.2.2.2.2.2).mono ?_
              rintro e w4 ⟨a4, m4, c4, rfl, hm4, hi4, hb4⟩
              have HW : Hid (Calls Tryd.prog 17 #[.pointer (some ⟨w.heap.size + 2, 0, none⟩), .int .i64 1, .int .i64 (s0 : Int), .slice a4 m4 c4] w4 fun e w' => e = .returned .nilIface ∧ DevIn w' (w.heap.size + 2) w.heap.size (w.heap.size + 1) (doneD d (1, (s0 : Int)) (fillC ys)) (30 + 2 * i2 + 1) ∧ Fd (w.heap.size + 2) w.heap.size (w.heap.size + 1) w4 w') :=
                (write_ (HX.out.1.on hb4) (1, (s0 : Int)) a4 ys m4 c4 hi4 hm4 HB8.out (by omega)).mono fun e w' ⟨h1, h2⟩ => ⟨h1.trans (by rw [op_err HX.out.2.1 hl1 (by have := HT64.out; omega)]; rfl), by rw [← op_write HX.out.2.1 hl1 (by have := HT64.out; omega)]; exact h2⟩
              have HB4 := Lib.hid (below_step HX.out.2.2.2.2.2.2 hb4)
              have HG4 : Hid (w4.heap[g]? = some (.cells (vals C).toArray 5 (0, 0))) := (hb4.block g (blk_lt HX.out.2.2.2.2.2.1)).trans HX.out.2.2.2.2.2.1
              clear hi4 hb4 HCt HA3
              go_wp2_with fail
              refine HW.out.mono ?_
              rintro e w5 ⟨rfl, hd5, hf5⟩
              have hgg := HX.out.2.2.2.2.1
              have HR : Hid (Safe2 w w5 s0 g C (i2 + 1)) := ⟨_, hd5.mono (by omega) (by omega), op_done HX.out.2.1 _ _, by
                show getP (putP d.pend (1, (s0 : Int)) (fillC ys)) (0, (s0 : Int)) = none
                rw [getP_put_other _ _ _ _ (by simp)]; exact HX.out.2.2.1, HX.out.2.2.2.1, hgg, (hf5.block g (blk_lt HG4.out) (by omega) (by omega) (by omega)).trans HG4.out, below_step' HB4.out hf5⟩
              clear hd5 hf5 HW HB4 HG4 HX hgg
              go_wp2_with fail
              go_roundw
              case rel => exact ⟨i2 + 1, by go_num, by omega, by omega, HR⟩
              case measure => simp [intOf]; omega
            · have k1 : ((s : Int) != (s0 : Int)) = true := by simp; omega
              have HEq := Lib.hid heq
              have hl0 : hasD d (0, (s : Int)) := op_has HX.out.2.1 (.inl rfl) s (by omega)
              clear heq
              go_wp2_with fail
              refine (HCt.out wr HX.out.2.2.2.2.2.2).mono ?_
              rintro e w4 ⟨a4, m4, c4, rfl, hm4, hi4, hb4⟩
              have HW : Hid (Calls Tryd.prog 17 #[.pointer (some ⟨w.heap.size + 2, 0, none⟩), .int .i64 0, .int .i64 (s : Int), .slice a4 m4 c4] w4 fun e w' => e = .returned .nilIface ∧ DevIn w' (w.heap.size + 2) w.heap.size (w.heap.size + 1) (doneD d (0, (s : Int)) (fillC ys)) (30 + 2 * i2 + 1) ∧ Fd (w.heap.size + 2) w.heap.size (w.heap.size + 1) w4 w') :=
                (write_ (HX.out.1.on hb4) (0, (s : Int)) a4 ys m4 c4 hi4 hm4 HB8.out (by omega)).mono fun e w' ⟨h1, h2⟩ => ⟨h1.trans (by rw [op_err HX.out.2.1 hl0 (by have := HT64.out; omega)]; rfl), by rw [← op_write HX.out.2.1 hl0 (by have := HT64.out; omega)]; exact h2⟩
              have HB4 := Lib.hid (below_step HX.out.2.2.2.2.2.2 hb4)
              have HG4 : Hid (w4.heap[g]? = some (.cells (vals C).toArray 5 (0, 0))) := (hb4.block g (blk_lt HX.out.2.2.2.2.2.1)).trans HX.out.2.2.2.2.2.1
              clear hi4 hb4 c3
              go_wp2_with fail
              refine HW.out.mono ?_
              rintro e w5 ⟨rfl, hd5, hf5⟩
              have hgg := HX.out.2.2.2.2.1
              have HB5 := Lib.hid (below_step' HB4.out hf5)
              have HG5 : Hid (w5.heap[g]? = some (.cells (vals C).toArray 5 (0, 0))) := (hf5.block g (blk_lt HG4.out) (by omega) (by omega) (by omega)).trans HG4.out
              have c3 := HA3.out w5 HB5.out
              have HO5 := Lib.hid (op_done HX.out.2.1 (0, (s : Int)) (fillC ys))
              have hl1' : hasD (doneD d (0, (s : Int)) (fillC ys)) (1, (s0 : Int)) := hl1
              have HD5 := Lib.hid hd5
              clear hd5 hf5 HW HB4 HG4
              go_wp2_with fail
              refine (HCt.out w5 HB5.out).mono ?_
              rintro e w6 ⟨a6, m6, c6, rfl, hm6, hi6, hb6⟩
              have HW : Hid (Calls Tryd.prog 17 #[.pointer (some ⟨w.heap.size + 2, 0, none⟩), .int .i64 1, .int .i64 (s0 : Int), .slice a6 m6 c6] w6 fun e w' => e = .returned .nilIface ∧ DevIn w' (w.heap.size + 2) w.heap.size (w.heap.size + 1) (doneD (doneD d (0, (s : Int)) (fillC ys)) (1, (s0 : Int)) (fillC ys)) (30 + 2 * i2 + 1 + 1) ∧ Fd (w.heap.size + 2) w.heap.size (w.heap.size + 1) w6 w') :=
                (write_ (HD5.out.on hb6) (1, (s0 : Int)) a6 ys m6 c6 hi6 hm6 HB8.out (by omega)).mono fun e w' ⟨h1, h2⟩ => ⟨h1.trans (by rw [op_err HO5.out hl1' (by have := HT64.out; omega)]; rfl), by rw [← op_write HO5.out hl1' (by have := HT64.out; omega)]; exact h2⟩
              have HB6 := Lib.hid (below_step HB5.out hb6)
              have HG6 : Hid (w6.heap[g]? = some (.cells (vals C).toArray 5 (0, 0))) := (hb6.block g (blk_lt HG5.out)).trans HG5.out
              clear hi6 hb6 HCt HA3 HB5 HG5 HD5
              go_wp2_with fail
              refine HW.out.mono ?_
              rintro e w7 ⟨rfl, hd7, hf7⟩
              have HR : Hid (Safe2 w w7 s0 g C (i2 + 1)) := ⟨_, hd7.mono (by omega) (by omega), op_done HO5.out _ _, by
                show getP (putP (putP d.pend (0, (s : Int)) (fillC ys)) (1, (s0 : Int)) (fillC ys)) (0, (s0 : Int)) = none
                rw [getP_put_other _ _ _ _ (by simp), getP_put_other _ _ _ _ (by intro e; simp only [Prod.mk.injEq, true_and] at e; exact HEq.out (by omega))]; exact HX.out.2.2.1, HX.out.2.2.2.1, hgg, (hf7.block g (blk_lt HG6.out) (by omega) (by omega) (by omega)).trans HG6.out, below_step' HB6.out hf7⟩
              clear hd7 hf7 HW HB6 HG6 HX hgg HO5
              go_wp2_with fail
              go_roundw
              case rel => exact ⟨i2 + 1, by go_num, by omega, by omega, HR⟩
              case measure => simp [intOf]; omega
          · by_cases hn2 : i2 < n
            · have r1 : decide ((i2 : Int) < (n : Int)) = true := decide_eq_true (by omega)
              have r2 : decide ((i2 : Int) < 30) = false := decide_eq_false (by omega)
              clear hgo2
              obtain ⟨d, hd, hop, hgn, hsf, hgg, hgb, hb⟩ := HS2.out
              have HX : Hid (DevIn wr (w.heap.size + 2) w.heap.size (w.heap.size + 1) d (30 + 2 * i2) ∧ OpD d ∧ getP d.pend (0, (s0 : Int)) = none ∧ d.safe (0, (s0 : Int)) = C ∧ w.heap.size + 2 < g ∧ wr.heap[g]? = some (.cells (vals C).toArray 5 (0, 0)) ∧ Below w.heap.size w wr) := ⟨hd, hop, hgn, hsf, hgg, hgb, hb⟩
              clear hd hop hgn hsf hgg hgb hb HS2
              go_wp2_with (first
                | (at_builtin; refine wpList_append_ints _ rfl _ _ rfl rfl ca cs cn cc rfl HC.out.2.1 HC.out.2.2.1 (HC.out.1.on HX.out.2.2.2.2.2.2) HC.out.2.2.2 ?_
                   intro a3 c3 w5 hi5 hl5 hb5
                   have H5 := Lib.hid (And.intro hi5 (And.intro hl5 hb5))
                   clear hi5 hl5 hb5)
                | fail)
              have hd5 := HX.out.1.on H5.out.2.2
              have HB5 := Lib.hid (below_step HX.out.2.2.2.2.2.2 H5.out.2.2)
              have hg5 := (H5.out.2.2.block g (blk_lt HX.out.2.2.2.2.2.1)).trans HX.out.2.2.2.2.2.1
              have HRs : Hid (Calls Tryd.prog 16 #[.pointer (some ⟨w.heap.size + 2, 0, none⟩), .slice a3 cn c3] w5 fun e w' => e = .returned (.tuple #[]) ∧ DevIn w' (w.heap.size + 2) w.heap.size (w.heap.size + 1) (restartD d cs) (30 + 2 * i2) ∧ Fd (w.heap.size + 2) w.heap.size (w.heap.size + 1) w5 w') :=
                restart_ hd5 a3 cs cn c3 HC.out.2.1 H5.out.1 (fun b o e => by have := H5.out.2.1 b o e; have := HX.out.1.lts.1; omega) (by have := HC.out.2.2.2; have := HC.out.2.1; omega)
              have HG5 := Lib.hid (And.intro hg5 HX.out.2.2.2.2.1)
              have hk : hasD (restartD d cs) (0, (s0 : Int)) := op_has (d := d) HX.out.2.1 (.inl rfl) s0 (by omega)
              have hrd : rErr (restartD d cs) (0, (s0 : Int)) = 0 ∧ readD (restartD d cs) (0, (s0 : Int)) = C := by
                refine ⟨by unfold rErr; rw [if_neg (fun e => e hk)]; rfl, ?_⟩
                show (getP [] _).getD (goR d.safe d.pend cs (0, (s0 : Int))) = C
                rw [goR_other _ _ _ _ HX.out.2.2.1, HX.out.2.2.2.1]; rfl
              have HRD := Lib.hid hrd
              clear hd5 hg5 hk hrd H5 HX
              refine HRs.out.mono ?_
              rintro e w6 ⟨rfl, hd6, hf6⟩
              have HB6 := Lib.hid (below_step' HB5.out hf6)
              have HG6 : Hid (w6.heap[g]? = some (.cells (vals C).toArray 5 (0, 0))) := (hf6.block g (blk_lt HG5.out.1) (by have := HG5.out.2; omega) (by have := HG5.out.2; omega) (by have := HG5.out.2; omega)).trans HG5.out.1
              have HR : Hid (Calls Tryd.prog 19 #[.pointer (some ⟨w.heap.size + 2, 0, none⟩), .int .i64 0, .int .i64 (s0 : Int)] w6 (GotC w6 C)) := (read_ hd6 (0, (s0 : Int))).mono fun e w' h => got_of h HRD.out
              clear hd6 hf6 HRs HB5 HG5 HRD
              go_wp2_with fail
              refine HR.out.mono ?_
              rintro e w7 ⟨g7, rfl, hg7, hh7, hb7⟩
              have HB7 := Lib.hid (below_step HB6.out hb7)
              have b1 := Lib.hid (ct_bytes 5 ((hb7.block g (blk_lt HG6.out)).trans HG6.out))
              have b2 := Lib.hid (ct_bytes 5 hh7)
              clear hg7 hh7 hb7 HR HB6 HG6
              have HRn : Hid (Calls Tryd.prog 19 #[.pointer none, .int .i64 0, .int .i64 0] w7 fun e w' => e = .returned (.tuple #[.slice none 0 0, .iface 62 (.int .i64 1)]) ∧ Below w7.heap.size w7 w') := read_nil (0, 0) w7
              go_wp2_with fail
              refine HRn.out.mono ?_
              rintro e w8 ⟨rfl, hb8⟩
              have HB8 := Lib.hid (below_step HB7.out hb8)
              have C1 : (convert 39 9 (.slice (some ⟨g, 0, none⟩) 64 64)).run Tryd.prog w8 = .ok (.string (bs C)) w8 := conv_ w8 _ 64 64 C HLC.out.symm (b1.out.on hb8)
              have C2 : (convert 39 9 (.slice (some ⟨g7, 0, none⟩) 64 64)).run Tryd.prog w8 = .ok (.string (bs C)) w8 := conv_ w8 _ 64 64 C HLC.out.symm (b2.out.on hb8)
              have HN8 := Lib.hid (num11 1 w8 (HE.out.on HB8.out))
              clear hb8 HB7 b1 b2 HRn
              generalize bs C = sC at *
              go_wp2_with fail
              refine HN8.out.mono ?_
              rintro e w9 ⟨rfl, hb9⟩
              have HB9 := Lib.hid (below_step HB8.out hb9)
              have HWn : Hid (Calls Tryd.prog 17 #[.pointer none, .int .i64 0, .int .i64 0, .slice none 0 0] w9 fun e w' => e = .returned (.iface 62 (.int .i64 1)) ∧ Below w9.heap.size w9 w') := write_nil (0, 0) none 0 0 w9
              clear hb9 HB8 HN8 C1 C2
              go_wp2_with fail
              refine HWn.out.mono ?_
              rintro e w10 ⟨rfl, hb10⟩
              have HB10 := Lib.hid (below_step HB9.out hb10)
              have HN10 := Lib.hid (num11 1 w10 (HE.out.on HB10.out))
              clear hb10 HB9 HWn
              go_wp2_with fail
              refine HN10.out.mono ?_
              rintro e w11 ⟨rfl, hb11⟩
              have HB11 := Lib.hid (below_step HB10.out hb11)
              have HSn : Hid (Calls Tryd.prog 22 #[.pointer none, .int .i64 0] w11 fun e w' => e = .returned (.iface 62 (.int .i64 1)) ∧ w' = w11) := sync_nil 0 w11
              have HN11 := Lib.hid (num11 1 w11 (HE.out.on HB11.out))
              clear hb11 HB10 HN10
              go_wp2_with fail
              refine HSn.out.mono ?_
              rintro e w11' ⟨rfl, rfl⟩
              go_wp2_with fail
              refine HN11.out.mono ?_
              rintro e w12 ⟨rfl, hb12⟩
              have HB12 := Lib.hid (below_step HB11.out hb12)
              have HAn : Hid (Calls Tryd.prog 23 #[.pointer none, .int .i64 1] w12 fun e w' => e = .returned (.iface 62 (.int .i64 1)) ∧ w' = w12) := arm_bad none 1 w12 (.inl rfl)
              have HN12 := Lib.hid (num11 1 w12 (HE.out.on HB12.out))
              clear hb12 HB11 HN11 HSn
              go_wp2_with fail
              refine HAn.out.mono ?_
              rintro e w12' ⟨rfl, rfl⟩
              go_wp2_with fail
              refine HN12.out.mono ?_
              rintro e w13 ⟨rfl, hb13⟩
              have HB13 := Lib.hid (below_step HB12.out hb13)
              have HCn := Lib.hid (crashed_nil w13)
              have HKn := Lib.hid (clone_nil w13)
              clear hb13 HB12 HN12 HAn
              go_wp2_with fail
              refine HCn.out.mono ?_
              rintro e w13' ⟨rfl, rfl⟩
              go_wp2_with fail
              refine HKn.out.mono ?_
              rintro e w13'' ⟨rfl, rfl⟩
              go_wp2_with fail
              refine (sure_ _).mono ?_
              rintro e w14 ⟨rfl, hb14⟩
              have HB14 := Lib.hid (below_step HB13.out hb14)
              clear hb14 HB13
              go_wp2_with fail
              go_ret
              exact ⟨rfl, HB14.out⟩
            · have r1 : decide ((i2 : Int) < (n : Int)) = false := decide_eq_false (by omega)
              clear hgo2
              obtain ⟨d, hd, hop, hgn, hsf, hgg, hgb, hb⟩ := HS2.out
              have HX : Hid (DevIn wr (w.heap.size + 2) w.heap.size (w.heap.size + 1) d (30 + 2 * i2) ∧ OpD d ∧ getP d.pend (0, (s0 : Int)) = none ∧ d.safe (0, (s0 : Int)) = C ∧ w.heap.size + 2 < g ∧ wr.heap[g]? = some (.cells (vals C).toArray 5 (0, 0)) ∧ Below w.heap.size w wr) := ⟨hd, hop, hgn, hsf, hgg, hgb, hb⟩
              clear hd hop hgn hsf hgg hgb hb HS2
              go_wp2_with (first
                | (at_builtin; refine wpList_append_ints _ rfl _ _ rfl rfl ca cs cn cc rfl HC.out.2.1 HC.out.2.2.1 (HC.out.1.on HX.out.2.2.2.2.2.2) HC.out.2.2.2 ?_
                   intro a3 c3 w5 hi5 hl5 hb5
                   have H5 := Lib.hid (And.intro hi5 (And.intro hl5 hb5))
                   clear hi5 hl5 hb5)
                | fail)
              have hd5 := HX.out.1.on H5.out.2.2
              have HB5 := Lib.hid (below_step HX.out.2.2.2.2.2.2 H5.out.2.2)
              have hg5 := (H5.out.2.2.block g (blk_lt HX.out.2.2.2.2.2.1)).trans HX.out.2.2.2.2.2.1
              have HRs : Hid (Calls Tryd.prog 16 #[.pointer (some ⟨w.heap.size + 2, 0, none⟩), .slice a3 cn c3] w5 fun e w' => e = .returned (.tuple #[]) ∧ DevIn w' (w.heap.size + 2) w.heap.size (w.heap.size + 1) (restartD d cs) (30 + 2 * i2) ∧ Fd (w.heap.size + 2) w.heap.size (w.heap.size + 1) w5 w') :=
                restart_ hd5 a3 cs cn c3 HC.out.2.1 H5.out.1 (fun b o e => by have := H5.out.2.1 b o e; have := HX.out.1.lts.1; omega) (by have := HC.out.2.2.2; have := HC.out.2.1; omega)
              have HG5 := Lib.hid (And.intro hg5 HX.out.2.2.2.2.1)
              have hk : hasD (restartD d cs) (0, (s0 : Int)) := op_has (d := d) HX.out.2.1 (.inl rfl) s0 (by omega)
              have hrd : rErr (restartD d cs) (0, (s0 : Int)) = 0 ∧ readD (restartD d cs) (0, (s0 : Int)) = C := by
                refine ⟨by unfold rErr; rw [if_neg (fun e => e hk)]; rfl, ?_⟩
                show (getP [] _).getD (goR d.safe d.pend cs (0, (s0 : Int))) = C
                rw [goR_other _ _ _ _ HX.out.2.2.1, HX.out.2.2.2.1]; rfl
              have HRD := Lib.hid hrd
              clear hd5 hg5 hk hrd H5 HX
              refine HRs.out.mono ?_
              rintro e w6 ⟨rfl, hd6, hf6⟩
              have HB6 := Lib.hid (below_step' HB5.out hf6)
              have HG6 : Hid (w6.heap[g]? = some (.cells (vals C).toArray 5 (0, 0))) := (hf6.block g (blk_lt HG5.out.1) (by have := HG5.out.2; omega) (by have := HG5.out.2; omega) (by have := HG5.out.2; omega)).trans HG5.out.1
              have HR : Hid (Calls Tryd.prog 19 #[.pointer (some ⟨w.heap.size + 2, 0, none⟩), .int .i64 0, .int .i64 (s0 : Int)] w6 (GotC w6 C)) := (read_ hd6 (0, (s0 : Int))).mono fun e w' h => got_of h HRD.out
              clear hd6 hf6 HRs HB5 HG5 HRD
              go_wp2_with fail
              refine HR.out.mono ?_
              rintro e w7 ⟨g7, rfl, hg7, hh7, hb7⟩
              have HB7 := Lib.hid (below_step HB6.out hb7)
              have b1 := Lib.hid (ct_bytes 5 ((hb7.block g (blk_lt HG6.out)).trans HG6.out))
              have b2 := Lib.hid (ct_bytes 5 hh7)
              clear hg7 hh7 hb7 HR HB6 HG6
              have HRn : Hid (Calls Tryd.prog 19 #[.pointer none, .int .i64 0, .int .i64 0] w7 fun e w' => e = .returned (.tuple #[.slice none 0 0, .iface 62 (.int .i64 1)]) ∧ Below w7.heap.size w7 w') := read_nil (0, 0) w7
              go_wp2_with fail
              refine HRn.out.mono ?_
              rintro e w8 ⟨rfl, hb8⟩
              have HB8 := Lib.hid (below_step HB7.out hb8)
              have C1 : (convert 39 9 (.slice (some ⟨g, 0, none⟩) 64 64)).run Tryd.prog w8 = .ok (.string (bs C)) w8 := conv_ w8 _ 64 64 C HLC.out.symm (b1.out.on hb8)
              have C2 : (convert 39 9 (.slice (some ⟨g7, 0, none⟩) 64 64)).run Tryd.prog w8 = .ok (.string (bs C)) w8 := conv_ w8 _ 64 64 C HLC.out.symm (b2.out.on hb8)
              have HN8 := Lib.hid (num11 1 w8 (HE.out.on HB8.out))
              clear hb8 HB7 b1 b2 HRn
              generalize bs C = sC at *
              go_wp2_with fail
              refine HN8.out.mono ?_
              rintro e w9 ⟨rfl, hb9⟩
              have HB9 := Lib.hid (below_step HB8.out hb9)
              have HWn : Hid (Calls Tryd.prog 17 #[.pointer none, .int .i64 0, .int .i64 0, .slice none 0 0] w9 fun e w' => e = .returned (.iface 62 (.int .i64 1)) ∧ Below w9.heap.size w9 w') := write_nil (0, 0) none 0 0 w9
              clear hb9 HB8 HN8 C1 C2
              go_wp2_with fail
              refine HWn.out.mono ?_
              rintro e w10 ⟨rfl, hb10⟩
              have HB10 := Lib.hid (below_step HB9.out hb10)
              have HN10 := Lib.hid (num11 1 w10 (HE.out.on HB10.out))
              clear hb10 HB9 HWn
              go_wp2_with fail
              refine HN10.out.mono ?_
              rintro e w11 ⟨rfl, hb11⟩
              have HB11 := Lib.hid (below_step HB10.out hb11)
              have HSn : Hid (Calls Tryd.prog 22 #[.pointer none, .int .i64 0] w11 fun e w' => e = .returned (.iface 62 (.int .i64 1)) ∧ w' = w11) := sync_nil 0 w11
              have HN11 := Lib.hid (num11 1 w11 (HE.out.on HB11.out))
              clear hb11 HB10 HN10
              go_wp2_with fail
              refine HSn.out.mono ?_
              rintro e w11' ⟨rfl, rfl⟩
              go_wp2_with fail
              refine HN11.out.mono ?_
              rintro e w12 ⟨rfl, hb12⟩
              have HB12 := Lib.hid (below_step HB11.out hb12)
              have HAn : Hid (Calls Tryd.prog 23 #[.pointer none, .int .i64 1] w12 fun e w' => e = .returned (.iface 62 (.int .i64 1)) ∧ w' = w12) := arm_bad none 1 w12 (.inl rfl)
              have HN12 := Lib.hid (num11 1 w12 (HE.out.on HB12.out))
              clear hb12 HB11 HN11 HSn
              go_wp2_with fail
              refine HAn.out.mono ?_
              rintro e w12' ⟨rfl, rfl⟩
              go_wp2_with fail
              refine HN12.out.mono ?_
              rintro e w13 ⟨rfl, hb13⟩
              have HB13 := Lib.hid (below_step HB12.out hb13)
              have HCn := Lib.hid (crashed_nil w13)
              have HKn := Lib.hid (clone_nil w13)
              clear hb13 HB12 HN12 HAn
              go_wp2_with fail
              refine HCn.out.mono ?_
              rintro e w13' ⟨rfl, rfl⟩
              go_wp2_with fail
              refine HKn.out.mono ?_
              rintro e w13'' ⟨rfl, rfl⟩
              go_wp2_with fail
              refine (sure_ _).mono ?_
              rintro e w14 ⟨rfl, hb14⟩
              have HB14 := Lib.hid (below_step HB13.out hb14)
              clear hb14 HB13
              go_wp2_with fail
              go_ret
              exact ⟨rfl, HB14.out⟩
end Go.Proofs.YtdcanhcejhaccaaDoor
