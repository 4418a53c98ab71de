/- The law JournalAgain, walked. -/
import Derived.Test.YtjnhcanohefjiaaAgMem
import Derived.ArgAppend
namespace Go.Proofs.Ytjnhcanohefjiaa
open Go.RowKit Go.Sort Go.Maps

/-- What was laid behind ahead of the crash. -/
def Ag1At (w : World) (bx q : Nat) (d : Dev) (lv : Value) (i : Nat) (wr : World) : Prop := ∃ J rv ev yss, LI w bx q 64 d 64 J rv ev wr ∧ SfI i d 64 J yss 0 ∧ LsF wr (MineL w q rv ev) w.heap.size lv yss
/-- What is told and laid behind it. -/
def Ag2At (w : World) (bx q : Nat) (tv : Value) (j : Nat) (wr : World) : Prop := ∃ d K J rv ev ta tc, tv = .slice ta J.pss.length tc ∧ J.pss.length ≤ tc ∧ LI w bx q 64 d K J rv ev wr ∧ AgI j d K J ∧ ListF wr (MineL w q rv ev) ta J.pss
theorem allB_take_le (ep : Nat) (yss : List (List Nat)) (m : Nat) : (allB ep (yss.take m)).length ≤ (allB ep yss).length := by
  have e : allB ep yss = allB ep (yss.take m) ++ allB ep (yss.drop m) := by rw [← allB_append, List.take_append_drop]
  rw [e, List.length_append]
  exact Nat.le_add_right _ _
set_option maxRecDepth 100000 in
set_option maxHeartbeats 8000000 in
theorem again_law (a1 : Option Addr) (n1 c1 : Nat) (f1 : Nat → TxV) (a2 : Option Addr) (n2 c2 : Nat) (f2 : Nat → TxV) (am : Int) (ca : Option Addr) (cs : List Int) (cn cc : Nat) (w : World) (hin1 : TxsAt w a1 n1 f1) (hin2 : TxsAt w a2 n2 f2) (hci : IntsIn w ca cs) (hcn : cs.length = cn) (hcz : ca = none → cc = 0) (hcl : cs.length * 8 ≤ 140737488355328) :
    Calls Try.prog 5 #[.slice a1 n1 c1, .slice a2 n2 c2, .agg #[.int .i64 am, .slice ca cn cc]] w fun e w' => e = .returned (.bool true) ∧ Below w.heap.size w w' := by
  have HSu := Lib.hid (fun W => sure_ W)
  obtain ⟨w0, hB0⟩ : ∃ w0, w0 = w.alloc (.cells #[.int .i64 am, .slice ca cn cc] 25) := ⟨_, rfl⟩
  have hbB : Below w.heap.size w w0 := by rw [hB0]; exact below_alloc _ _
  have hw0 : w0.heap.size = w.heap.size + 1 := by rw [hB0]; simp
  have z0 : w0.cell? ⟨w.heap.size, 0, none⟩ = some (.int .i64 am) := by rw [hB0]; exact cell_of (World.alloc_heap_new' _ _) rfl
  have z1 : w0.cell? ⟨w.heap.size, 1, none⟩ = some (.slice ca cn cc) := by rw [hB0]; exact cell_of (World.alloc_heap_new' _ _) rfl
  have FA : Hid (∀ V, Below w0.heap.size w0 V → V.cell? ⟨w.heap.size, 0, none⟩ = some (.int .i64 am) ∧ V.cell? ⟨w.heap.size, 1, none⟩ = some (.slice ca cn cc)) := fun V hV => ⟨(hV.cell (block_lt_of_cell z0)).trans z0, (hV.cell (block_lt_of_cell z1)).trans z1⟩
  have HBq := Lib.hid hbB
  have HB0 := Lib.hid hB0
  have HT1 := Lib.hid (hin1.on hbB)
  have HT2 := Lib.hid (hin2.on hbB)
  have HCi2 := Lib.hid (And.intro (hci.on hbB) (And.intro hcn (And.intro hcz hcl)))
  clear hin1 hin2 hci hB0 hbB hcn hcz hcl z0 z1 hw0
  have HN := Lib.hid (new_ 1 64 w0 (by omega))
  obtain ⟨o1, o2, o3⟩ := opened_new 64 (by decide) (by decide) 7 (by decide)
  obtain ⟨_, _, _, _, o5, o6⟩ := clean_good (okD_new 1 (64 : Nat)) rfl rfl (inJ_n 64 (by decide)) (fun x hx => by cases hx) (begins_nil _ _) o1
  obtain ⟨d1, hd1⟩ : ∃ d1, d1 = cleanD (arN 64) [] (newD 1 (64 : Nat)) := ⟨_, rfl⟩
  have HO1 : Hid (∀ W, DevIn W (w0.heap.size + 2) w0.heap.size (w0.heap.size + 1) (newD 1 64) 0 → w0.heap.size ≤ W.heap.size → Calls Try.prog 7 #[.pointer (some ⟨w0.heap.size + 2, 0, none⟩), .agg #[.int .i64 0, .int .i64 0, .int .i64 64], .int .u64 7] W fun e w' => ∃ q la lc, e = .returned (.tuple #[.pointer (some ⟨q, 0, none⟩), .slice la 0 lc, .nilIface]) ∧ ∃ rv ev, Jn w' w0.heap.size (w0.heap.size + 2) w0.heap.size (w0.heap.size + 1) q d1 64 ⟨arN 64, 7, [], 0, 0⟩ rv ev ∧ Ext (fun k => k = w0.heap.size + 2 ∨ k = w0.heap.size ∨ k = w0.heap.size + 1) (MineL w0 q rv ev) W w') := fun W hd hw => by
    rw [hd1]
    exact open_first 64 (by decide) (by decide) 7 (by decide) hd ⟨by omega, by omega, by omega⟩ hw
  rw [← hd1] at o2 o3 o5 o6
  have HC1 := Lib.hid (And.intro o2 (And.intro o5 o6))
  have hd1c : d1.crashed = false := o2.cr
  clear o1 o2 o3 o5 o6 hd1
  go_enter Try.func5, Try.ntmps5
  go_wp2_with fail
  rw [← HB0.out]
  refine HN.out.mono ?_
  rintro e w1 ⟨rfl, hb1, hd1'⟩
  unfold pt
  obtain ⟨W, hW⟩ : ∃ W, W = w1.alloc (.cells #[.int .i64 0, .int .i64 0, .int .i64 64] 32) := ⟨_, rfl⟩
  have hbW : Below w1.heap.size w1 W := by rw [hW]; exact below_alloc _ _
  have HA : Hid (ArAt W w1.heap.size (arN 64)) := by rw [hW]; exact World.alloc_heap_new' _ _
  have HD := Lib.hid (hd1'.on hbW)
  have HB := Lib.hid (below_step hb1 hbW)
  have HW := Lib.hid hW
  obtain ⟨x0, x1, x2⟩ := HA.out.cells
  have hbx : w0.heap.size + 3 ≤ w1.heap.size := by have := hd1'.lts.1; omega
  clear hW hbW hb1 hd1' HN HB0
  go_wp2_with fail
  rw [← HW.out]
  refine (HO1.out W HD.out HB.out.size).mono ?_
  rintro e w2 ⟨q, la, lc, rfl, rv, ev, hj2, hx2⟩
  have hL2 : LI w0 w1.heap.size q 64 d1 64 ⟨arN 64, 7, [], 0, 0⟩ rv ev w2 := ⟨HB.out.trans (hx2.below HB.out.size (fun k hk => by rcases hk with e | e | e <;> omega)), hj2, HA.out.ext hx2 (by rintro (e | e | e) <;> omega)⟩
  have HI0 : Hid (Ag1At w0 w1.heap.size q d1 (.slice none 0 0) 0 w2) := ⟨_, rv, ev, [], hL2, ⟨rfl, rfl, rfl, Nat.le_refl _, Nat.le_refl _, tell_calm HC1.out.1 hL2.jn.jr.ok rfl rfl HC1.out.2.1 HC1.out.2.2, fun _ => ⟨HC1.out.1, rfl⟩, by decide, HC1.out.2⟩, lsF_nil _ _ _⟩
  generalize w1.heap.size = bx at *
  clear hj2 hx2 HB HA HD HW x0 x1 x2 HO1 hL2 HC1
  go_wp2_with fail
  go_loopw [13, 14] (fun sv iv wr => ∃ (lv : Value) (i : Nat), lv = sv ∧ iv = .int .i64 i ∧ i ≤ n1 ∧ i ≤ 15 ∧ Hid (Ag1At w0 bx q d1 lv i wr)) (fun _ iv _ => 15 - (intOf iv).toNat)
  case atStart => exact ⟨_, 0, rfl, rfl, Nat.zero_le _, by omega, HI0⟩
  case round =>
    obtain ⟨lv, i, rfl, rfl, hin, hi15, HI⟩ := hrel
    clear HI0
    obtain ⟨J, rv2, ev2, yss, hLI, hS, hls⟩ := HI.out
    have HLI := Lib.hid hLI
    have HS := Lib.hid hS
    have HLs := Lib.hid hls
    obtain ⟨lla, llc, hlv, _⟩ := hls.slice
    have hyc := hS.cnt
    clear HI hLI hS hls
    subst hlv
    generalize hyl : yss.length = yl at *
    have HYL := Lib.hid hyl
    clear hyl
    by_cases hgo : i < n1 ∧ i < 15
    · obtain ⟨hl1, hl2⟩ := hgo
      have hlt1 : (i : Int) < (n1 : Int) := by omega
      have hlt2 : (i : Int) < 15 := by omega
      have hi0 : (0 : Int) ≤ (i : Int) := by omega
      obtain ⟨b, o, rfl, hcl0, hby, hbt, hnl, hcp⟩ := HT1.out i hl1
      have FC : Hid (∀ V, Below wr.heap.size wr V → V.cell? ⟨b, o + i, none⟩ = some (.slice (f1 i).a (f1 i).xs.length (f1 i).c)) := fun V hV => ((below_step HLI.out.bw hV).cell (block_lt_of_cell hcl0)).trans hcl0
      obtain ⟨m, hm⟩ : ∃ m, m = min (f1 i).xs.length 100 := ⟨_, rfl⟩
      obtain ⟨xs, hxs⟩ : ∃ xs, xs = cutP 100 (f1 i).xs := ⟨_, rfl⟩
      have hxl : xs.length = m := by rw [hm, hxs]; exact cutP_len 100 _
      have HX : Hid (BytesIn w0 (f1 i).a xs ∧ (∀ x ∈ xs, x < 256) ∧ ((f1 i).a = none → (f1 i).c = 0)) := ⟨by rw [hxs]; exact hby.take _, fun x hx => hbt x (by rw [hxs] at hx; exact List.mem_of_mem_take hx), hnl⟩
      have HXL := Lib.hid hxl
      have hmm : min ((f1 i).xs.length : Int) 100 = (m : Int) := by omega
      have hmc : (m : Int) ≤ ((f1 i).c : Int) := by omega
      have hm0 : (0 : Int) ≤ (m : Int) := by omega
      have hm100 : m ≤ 100 := by omega
      clear hcl0 hby hbt hnl hcp hm hxs hxl
      generalize (f1 i).a = ta at *
      generalize (f1 i).xs.length = l at *
      generalize (f1 i).c = tc at *
      go_wp2_with fail
      refine wp_region_noPanic ?_
      refine wp_region_held_drew (S := fun V => Below wr.heap.size wr V) (by kernel_rfl) (below_drew _) (fun hHeld => ?_)
      refine take_at 0 (.slice none 0 0) rfl (by kernel_rfl) (by kernel_rfl) (by kernel_rfl) (fun _ _ _ h => h) (Or.inl ⟨by rfl, ?_⟩) (by assumption) ?_
      · intro V hSV; go_simp
      simp only [Act.put, List.setIfInBounds_toArray, List.set_cons_zero, List.set_cons_succ]
      refine take_at 1 (.slice (some ⟨b, o, none⟩) n1 c1) rfl (by kernel_rfl) (by kernel_rfl) (by kernel_rfl) (fun _ _ _ h => h) (Or.inl ⟨by rfl, ?_⟩) (by assumption) ?_
      · intro V hSV; go_simp
      simp only [Act.put, List.setIfInBounds_toArray, List.set_cons_zero, List.set_cons_succ]
      refine take_at 2 (.int .i64 i) rfl (by kernel_rfl) (by kernel_rfl) (by kernel_rfl) (fun _ _ _ h => h) (Or.inl ⟨by rfl, ?_⟩) (by assumption) ?_
      · intro V hSV; go_simp
      simp only [Act.put, List.setIfInBounds_toArray, List.set_cons_zero, List.set_cons_succ]
      refine take_at 3 (.pointer (some ⟨b, o + i, none⟩)) rfl (by kernel_rfl) (by kernel_rfl) (by kernel_rfl) (fun _ _ _ h => h) (Or.inl ⟨by rfl, ?_⟩) (by assumption) ?_
      · intro V hSV; go_simp
      simp only [Act.put, List.setIfInBounds_toArray, List.set_cons_zero, List.set_cons_succ]
      refine take_at 4 (.slice ta l tc) rfl (by kernel_rfl) (by kernel_rfl) (by kernel_rfl) (fun _ _ _ h => h) (Or.inl ⟨by rfl, ?_⟩) (by assumption) ?_
      · intro V hSV; have e0 := FC.out V hSV; go_simp
      simp only [Act.put, List.setIfInBounds_toArray, List.set_cons_zero, List.set_cons_succ]
      refine take_at 5 (.slice (some ⟨b, o, none⟩) n1 c1) rfl (by kernel_rfl) (by kernel_rfl) (by kernel_rfl) (fun _ _ _ h => h) (Or.inl ⟨by rfl, ?_⟩) (by assumption) ?_
      · intro V hSV; go_simp
      simp only [Act.put, List.setIfInBounds_toArray, List.set_cons_zero, List.set_cons_succ]
      refine take_at 6 (.int .i64 i) rfl (by kernel_rfl) (by kernel_rfl) (by kernel_rfl) (fun _ _ _ h => h) (Or.inl ⟨by rfl, ?_⟩) (by assumption) ?_
      · intro V hSV; go_simp
      simp only [Act.put, List.setIfInBounds_toArray, List.set_cons_zero, List.set_cons_succ]
      refine take_at 7 (.pointer (some ⟨b, o + i, none⟩)) rfl (by kernel_rfl) (by kernel_rfl) (by kernel_rfl) (fun _ _ _ h => h) (Or.inl ⟨by rfl, ?_⟩) (by assumption) ?_
      · intro V hSV; go_simp
      simp only [Act.put, List.setIfInBounds_toArray, List.set_cons_zero, List.set_cons_succ]
      refine take_at 8 (.slice ta l tc) rfl (by kernel_rfl) (by kernel_rfl) (by kernel_rfl) (fun _ _ _ h => h) (Or.inl ⟨by rfl, ?_⟩) (by assumption) ?_
      · intro V hSV; have e0 := FC.out V hSV; go_simp
      simp only [Act.put, List.setIfInBounds_toArray, List.set_cons_zero, List.set_cons_succ]
      refine take_at 9 (.int .i64 l) rfl (by kernel_rfl) (by kernel_rfl) (by kernel_rfl) (fun _ _ _ h => h) (Or.inl ⟨by rfl, ?_⟩) (by assumption) ?_
      · intro V hSV; go_simp
      simp only [Act.put, List.setIfInBounds_toArray, List.set_cons_zero, List.set_cons_succ]
      refine take_at 10 (.int .i64 m) rfl (by kernel_rfl) (by kernel_rfl) (by kernel_rfl) (fun _ _ _ h => h) (Or.inl ⟨by rfl, ?_⟩) (by assumption) ?_
      · intro V hSV; go_simp
      simp only [Act.put, List.setIfInBounds_toArray, List.set_cons_zero, List.set_cons_succ]
      refine take_at 11 (.slice ta m tc) rfl (by kernel_rfl) (by kernel_rfl) (by kernel_rfl) (fun _ _ _ h => h) (Or.inl ⟨by rfl, ?_⟩) (by assumption) ?_
      · intro V hSV; go_simp
      simp only [Act.put, List.setIfInBounds_toArray, List.set_cons_zero, List.set_cons_succ]
      refine wpAnyH_ready (rs := [12]) (by kernel_rfl) (by simp) ?_
      refine cons_op 12 rfl (fun KK hK => ?_) AllReadyH.nil
      refine step_append_bytes _ rfl _ _ rfl wr.heap.size _ [] xs rfl (own_nil _ _) ta m tc rfl HXL.out HX.out.2.2 ((HX.out.1.on HLI.out.bw).on hHeld) (by rw [HXL.out]; simp; omega) (Nat.le_refl _) ?_
      intro v5 w5 hown5 hgrow5
      have hb5 : Below wr.heap.size wr w5 := (below_drew wr).grown hgrow5 (Nat.le_refl _) (fun k hk => by cases hk)
      rw [List.nil_append] at hown5
      obtain ⟨xa, xc, hv5, _, _⟩ := hown5.bytes
      rw [HXL.out] at hv5
      subst hv5
      refine hK.out _ _ hb5 (fun hHeld12 => ?_)
      simp only [Act.put, List.setIfInBounds_toArray, List.set_cons_zero, List.set_cons_succ]
      have HO5 := Lib.hid hown5
      have HB5 := Lib.hid hb5
      clear hK KK hown5 hgrow5 hb5
      refine take_at 13 (.slice xa m xc) rfl (by kernel_rfl) (by kernel_rfl) (by kernel_rfl) (fun _ _ _ h => h) (Or.inl ⟨by rfl, ?_⟩) (by assumption) ?_
      · intro V hSV; go_simp
      simp only [Act.put, List.setIfInBounds_toArray, List.set_cons_zero, List.set_cons_succ]
      refine wpAnyH_done (by kernel_rfl) ?_ _
      refine NoPanic.normal ?_
      clear hHeld hHeld12 FC
      by_cases hm00 : m = 0
      · have hz : decide ((m : Int) > 0) = false := decide_eq_false (by omega)
        have HN1 : Hid (Ag1At w0 bx q d1 (.slice lla yl llc) (i + 1) w5) := ⟨J, rv2, ev2, yss, HLI.out.on HB5.out, HS.out.more, HLs.out.on HB5.out⟩
        subst hm00
        clear HO5 HX HXL HLs HS HLI
        go_wp2_with fail
        go_roundw
        case rel => exact ⟨_, i + 1, rfl, by go_num, by omega, by omega, HN1⟩
        case measure => simp [intOf]; omega
      · have hz : (m : Int) > 0 := by omega
        have hx0 : xs ≠ [] := fun e => hm00 (by rw [← HXL.out, e]; rfl)
        have HAp := Lib.hid (sf_app HLI.out HS.out (by omega) hd1c HB5.out (HLs.out.on HB5.out) (.slice xa m xc) xs (by rw [HXL.out]; exact hm100) hx0 HX.out.2.1 (own_payF HLI.out.jn HO5.out hx0))
        have HSk := Lib.hid (sf_keep HS.out HLI.out.jn.jr.ok hd1c (xs := xs) (by rw [HXL.out]; exact hm100))
        have FinA : Hid (∀ V rv6 ev6 v8, LI w0 bx q 64 d1 64 (plusJ J xs) rv6 ev6 V → LsF V (MineL w0 q rv6 ev6) w0.heap.size v8 (yss ++ [xs]) → Ag1At w0 bx q d1 v8 (i + 1) V) := fun V rv6 ev6 v8 g1 g2 => ⟨plusJ J xs, rv6, ev6, yss ++ [xs], g1, HSk.out, g2⟩
        clear hx0 hm00 HO5 HX HXL HLs HS HLI HSk
        go_wp2_with (first
          | (go_at_call 10; refine HAp.out.mono ?_; rintro e w6 ⟨rfl, rv6, ev6, hL6, hls6, hp6⟩
             obtain ⟨vs, hr6, hn6, h36⟩ := hls6.on (below_alloc w6 (.cells #[.slice xa m xc] 40))
             have HL6 := Lib.hid (hL6.on (below_alloc w6 (.cells #[.slice xa m xc] 40)))
             have HR6 := Lib.hid (And.intro hr6 (And.intro hn6 (And.intro h36 (hp6.ext (Ext.of_below _ (below_alloc w6 (.cells #[.slice xa m xc] 40)))))))
             have hvl : vs.length ≤ 10000000 := by rw [hn6, HYL.out]; omega
             clear hL6 hls6 hp6 hr6 hn6 h36)
          | (at_builtin; refine wpList_append_row _ rfl _ _ rfl w0.heap.size _ vs (.slice xa m xc) rfl HR6.out.1 w6.heap.size rfl (cell_of (World.alloc_heap_new' _ _) rfl) rfl hvl HL6.out.bw.size ?_
             intro v8 w8 hown8 hgrow8
             have HL8 := Lib.hid (HL6.out.grow HR6.out.1 hgrow8)
             have HLs8 := Lib.hid (LsF.snoc HR6.out.1 HR6.out.2.1 HR6.out.2.2.1 HR6.out.2.2.2 hown8 hgrow8)
             clear hown8 hgrow8 HR6 HL6 hvl)
          | fail)
        go_roundw
        case rel => exact ⟨_, i + 1, rfl, by go_num, by omega, by omega, FinA.out _ _ _ _ HL8.out HLs8.out⟩
        case measure => simp [intOf]; omega
    · have hex : (¬ (i : Int) < (n1 : Int)) ∨ ((i : Int) < (n1 : Int) ∧ ¬ (i : Int) < 15) := by omega
      obtain ⟨ar, har⟩ : ∃ ar : Nat, (am % 18446744073709551616) % 30 = (ar : Int) := ⟨((am % 18446744073709551616) % 30).toNat, by omega⟩
      have har40 : ar < 30 := by omega
      have HArm := Lib.hid (ag_arm HLI.out HLs.out ar (by omega))
      have hwa : IntKind.u64.wrap am = am % 18446744073709551616 := by rw [IntKind.wrap_u64]
      have hwr : IntKind.u64.wrap ((am % 18446744073709551616) % 30) = (ar : Int) := by rw [har, IntKind.wrap_u64]; omega
      have hwa2 := wraps_i64 (ar : Int) (by omega) (by omega)
      have ht1 : (am % 18446744073709551616).tmod 30 = (ar : Int) := by rw [Int.tmod_eq_emod_of_nonneg (by omega)]; exact har
      obtain ⟨y0, y1⟩ := FA.out _ HLI.out.bw
      have hrow := HS.out.row
      have hpss := HS.out.pss
      have hJa := HS.out.a
      have hJe := HS.out.ep
      have hcal : Calm { d1 with armed := true, left := ar } J := (HS.out.calm hd1c).1.arm true ar
      have hokJ := HLI.out.jn.jr.ok
      obtain ⟨t1, t2, t3, _⟩ := hcal.crash hokJ cs
      have hrest : Rest (restartD (flushD { d1 with armed := true, left := ar } J) cs) (arN 64) := ⟨t1, rfl, rfl, rfl, by unfold inJ; rw [t2, t3]; show inJ d1 (arN 64); unfold inJ; rw [HS.out.dim.1, HS.out.dim.2]; decide, by rw [t2, t3]; show 1 ≤ d1.r ∧ d1.r ≤ 16 ∧ 1 ≤ d1.s ∧ d1.s ≤ 16384; rw [HS.out.dim.1, HS.out.dim.2]; decide⟩
      have hdim2 : (restartD (flushD { d1 with armed := true, left := ar } J) cs).r = 1 ∧ (restartD (flushD { d1 with armed := true, left := ar } J) cs).s = 64 := ⟨t2.trans HS.out.dim.1, t3.trans HS.out.dim.2⟩
      have HFl : Hid (∀ V rv ev lv, LI w0 bx q 64 { d1 with armed := true, left := ar } 64 J rv ev V → LsF V (MineL w0 q rv ev) w0.heap.size lv yss → Calls Try.prog 11 #[.pointer (some ⟨q, 0, none⟩)] V fun e w' => ∃ ev0, e = .returned ev0 ∧ ∃ rv' ev', LI w0 bx q 64 (flushD { d1 with armed := true, left := ar } J) 128 (flushJ { d1 with armed := true, left := ar } J) rv' ev' w' ∧ LsF w' (MineL w0 q rv' ev') w0.heap.size lv yss) := fun V rv ev lv g1 g2 => ag_flush g1 hJa (by decide) g2
      have HYb : Hid (∀ ys ∈ yss, ∀ x ∈ ys, x < 256) := fun ys hys => (hokJ.pays ys (by rw [hpss]; exact hys)).2.2
      have HRest := Lib.hid (And.intro hrest hdim2)
      have HRow : Hid ((allB 7 yss).length ≤ 1860) := by
        have e : J.row = allB 7 yss := by unfold Jr.row; rw [hJe, hpss]
        rw [← e]
        exact Nat.le_trans hrow (by omega)
      clear hgo hrest t1 t2 t3 HS HLs HLI hrow hpss hJa hJe hcal hokJ HT1 hdim2 har
      generalize hdf : flushD { d1 with armed := true, left := (ar : Int) } J = df at *
      generalize hjf : flushJ { d1 with armed := true, left := (ar : Int) } J = jf at *
      generalize hda : ({ d1 with armed := true, left := (ar : Int) } : Dev) = da at *
      clear hdf hjf hda
      generalize hd5 : restartD df cs = d5 at *
      have HD5 := Lib.hid hd5
      clear hd5
      rcases hex with hx1 | ⟨hx1, hx2⟩
      all_goals
        go_wp2_with (first
          | (go_at_call 8; refine HArm.out.mono ?_; rintro e w3 ⟨rfl, hL3, hls3⟩
             have HF3 := Lib.hid (HFl.out _ _ _ _ hL3 hls3)
             clear hL3 hls3)
          | (go_at_call 11; refine HF3.out.mono ?_; rintro e w4 ⟨ev0, rfl, rv4, ev4, hL4, hls4⟩
             have HL4 := Lib.hid hL4
             have HLs4 := Lib.hid hls4
             obtain ⟨_, v1⟩ := FA.out _ hL4.bw
             clear hL4 hls4)
          | (at_builtin; refine wpList_append_ints _ rfl _ _ rfl rfl ca cs cn cc rfl HCi2.out.2.1 HCi2.out.2.2.1 (HCi2.out.1.on HL4.out.bw) HCi2.out.2.2.2 ?_
             intro a6 c6 w6 hi6 hl6 hb6
             obtain ⟨la9, lc9, hv9, hl9, hcap9⟩ := HLs4.out.slice
             rw [HYL.out] at hv9 hcap9
             simp only [Value.slice.injEq] at hv9
             obtain ⟨hv91, _, _⟩ := hv9
             subst hv91
             have H6 := Lib.hid (ag_restart (HL4.out.on hb6) (hl9.on hb6) a6 cs cn c6 HCi2.out.2.1 hi6 (fun b o e => by have := hl6 b o e; have := HL4.out.jn.dev.lts.1; omega) (by have := HCi2.out.2.2.2; have := HCi2.out.2.1; omega))
             clear hi6 hl6 hb6 hl9 HL4 HLs4)
          | (go_at_call 12; refine H6.out.mono ?_; rintro e w5 ⟨rfl, h51, h52, h53, h54⟩
             rw [HD5.out] at h51
             have HR5 := Lib.hid (And.intro h51 (And.intro h52 (And.intro h53 h54)))
             clear h51 h52 h53 h54)
          | fail)
        clear HArm HFl HF3 H6 y0 y1 v1 hwa hwr hwa2 ht1
        obtain ⟨l, hl⟩ : ∃ l, l = (openJ d5 (arN 64) 7).pss := ⟨_, rfl⟩
        have HCh : Hid (Calls Try.prog 13 #[.pointer (some ⟨w0.heap.size + 2, 0, none⟩), .slice lla yl lc9] w5 fun e w' => e = .returned (.bool (chB l yss)) ∧ Below w5.heap.size w5 w') := by
          rw [hl]
          exact chance_ HR5.out.1 HRest.out.1.cr HRest.out.1.inn lla yss yl lc9 HYL.out HR5.out.2.2.1 (by omega) HYb.out
        obtain ⟨cb, hcb⟩ : ∃ cb, cb = chB l yss := ⟨_, rfl⟩
        rw [← hcb] at HCh
        have HCB := Lib.hid hcb
        have HL := Lib.hid hl
        clear hcb hl
        go_wp2_with fail
        refine HCh.out.mono ?_
        rintro e w6 ⟨rfl, hb6⟩
        have HB6 := Lib.hid hb6
        have HBw6 := Lib.hid (below_step HR5.out.2.2.2 hb6)
        clear hb6 HCh
        cases cb with
        | true =>
          go_wp2_with (first
            | (go_at_call 14; refine (HSu.out _).mono ?_; rintro e w7 ⟨rfl, hb7⟩; have HB7 := Lib.hid (HBq.out.trans ((below_step HBw6.out hb7).mono HBq.out.size)); clear hb7)
            | fail)
          go_ret
          exact ⟨rfl, HB7.out⟩
        | false =>
          have hpre := chB_take HCB.out.symm
          obtain ⟨m0, hm0l⟩ : ∃ m0, l.length = m0 := ⟨_, rfl⟩
          rw [hm0l] at hpre
          have hm0y : m0 ≤ yl := by
            have q1 := congrArg List.length hpre
            rw [List.length_take, hm0l, HYL.out] at q1
            omega
          have hOp := ag_open (bx := bx) (HR5.out.1.on HB6.out) HRest.out.1 (by decide) HBw6.out (HR5.out.2.1.on HB6.out) hbx (HR5.out.2.2.1.on HB6.out)
          obtain ⟨p1, p2, p3⟩ := HRest.out.1.opened (ep := 7) (by decide)
          obtain ⟨_, _, _, _, _, _, p7, p8⟩ := open_good HRest.out.1.ok HRest.out.1.pend HRest.out.1.cr HRest.out.1.arm HRest.out.1.inn HRest.out.1.lim (ep := 7) (by decide)
          have HA0 : Hid (AgI 0 (cleanD (arN 64) (openJ d5 (arN 64) 7).row d5) 192 (openJ d5 (arN 64) 7)) := by
            refine ⟨rfl, rfl, ?_, p2, rfl, p3, by decide, p7.trans HRest.out.2.1, p8.trans HRest.out.2.2⟩
            show (allB 7 (openJ d5 (arN 64) 7).pss).length ≤ _
            rw [← HL.out, hpre]
            exact Nat.le_trans (allB_take_le 7 yss m0) HRow.out
          have HOp : Hid (Calls Try.prog 7 #[.pointer (some ⟨w0.heap.size + 2, 0, none⟩), .agg #[.int .i64 0, .int .i64 0, .int .i64 64], .int .u64 7] w6 fun e w' => ∃ q2 la7 lc7, e = .returned (.tuple #[.pointer (some ⟨q2, 0, none⟩), .slice la7 m0 lc7, .nilIface]) ∧ Hid (Ag2At w0 bx q2 (.slice la7 m0 lc7) 0 w') ∧ Hid (ListIn w' la7 l) ∧ Hid (ListIn w' lla l) ∧ m0 ≤ lc7) := by
            refine hOp.mono fun e w' ⟨q2, la7, lc7, rv7, ev7, g1, g2, g3, g4, g5⟩ => ?_
            have e7 : (openJ d5 (arN 64) 7).pss.length = m0 := by rw [← HL.out]; exact hm0l
            refine ⟨q2, la7, lc7, by rw [g1, e7], ⟨_, _, _, rv7, ev7, la7, lc7, by rw [e7], g4, g2, HA0.out, g3⟩, by rw [HL.out]; exact g3.list, ?_, by rw [← e7]; exact g4⟩
            have q3 := g5.take m0
            rw [← hpre] at q3
            exact q3
          obtain ⟨x0, x1, x2⟩ := (HR5.out.2.1.on HB6.out).cells
          have HLs7 : Hid (∀ V la7 lc7, ListIn V la7 l → ListIn V lla l → Calls Try.prog 18 #[.slice la7 m0 lc7, .slice lla m0 lc9] V fun e w' => e = .returned (.bool true) ∧ Below V.heap.size V w') := fun V la7 lc7 g1 g2 => lists_ la7 lla l m0 lc7 lc9 V hm0l (by omega) g1 g2
          have hgt : ¬ (m0 : Int) > (yl : Int) := by omega
          have hgt2 : decide (yl < m0) = false := decide_eq_false (by omega)
          have hm9 : (m0 : Int) ≤ (lc9 : Int) := by omega
          have hm90 : (0 : Int) ≤ (m0 : Int) := by omega
          clear hOp p1 p2 p3 p7 p8 HA0 hpre hm0l HR5 HB6 HRow HCB
          go_wp2_with (first
            | (go_at_call 7; refine HOp.out.mono ?_; rintro e w7 ⟨q2, la7, lc7, rfl, HI7, HL7, HY7, hm7⟩
               have HL27 := Lib.hid (HLs7.out _ la7 lc7 HL7.out HY7.out)
               clear HL7 HY7 x0 x1 x2)
            | (go_at_call 18; refine HL27.out.mono ?_; rintro e w8 ⟨rfl, hb8⟩
               have HI8 : Hid (Ag2At w0 bx q2 (.slice la7 m0 lc7) 0 w8) := by
                 obtain ⟨d9, K9, J9, rv9, ev9, ta9, tc9, g1, g2, g3, g4, g5⟩ := HI7.out
                 exact ⟨d9, K9, J9, rv9, ev9, ta9, tc9, g1, g2, g3.on hb8, g4, g5.ext (Ext.of_below _ hb8)⟩
               clear hb8 HI7)
            | fail)
          clear HOp HLs7 HL27 HYb HRest HBw6 HL hgt hgt2 hm9 hm90 hm7
          go_loopw [18, 20] (fun tv iv wr => ∃ (v : Value) (j : Nat), v = tv ∧ iv = .int .i64 j ∧ j ≤ n2 ∧ j ≤ 15 ∧ Hid (Ag2At w0 bx q2 v j wr)) (fun _ iv _ => 15 - (intOf iv).toNat)
          case atStart => exact ⟨_, 0, rfl, rfl, Nat.zero_le _, by omega, HI8⟩
          case round =>
            obtain ⟨v, j, rfl, rfl, hjn, hj15, HI⟩ := hrel
            clear HI8
            obtain ⟨d, K, J2, rv3, ev3, ta3, tc3, hv, htc, hLI, hAg, hLF⟩ := HI.out
            have HLI2 := Lib.hid hLI
            have HAg := Lib.hid hAg
            have HLF := Lib.hid hLF
            have hcnt := hLI.jn.jr.ok.count
            subst hv
            generalize hzl : J2.pss.length = zl at *
            have HZL := Lib.hid hzl
            clear HI hLI hAg hLF hzl
            by_cases hgo : j < n2 ∧ j < 15
            · obtain ⟨hl1, hl2⟩ := hgo
              have hlt1 : (j : Int) < (n2 : Int) := by omega
              have hlt2 : (j : Int) < 15 := by omega
              have hi0 : (0 : Int) ≤ (j : Int) := by omega
              obtain ⟨b, o, rfl, hcl0, hby, hbt, hnl, hcp⟩ := HT2.out j hl1
              have FC : Hid (∀ V, Below wr.heap.size wr V → V.cell? ⟨b, o + j, none⟩ = some (.slice (f2 j).a (f2 j).xs.length (f2 j).c)) := fun V hV => ((below_step HLI2.out.bw hV).cell (block_lt_of_cell hcl0)).trans hcl0
              obtain ⟨m, hm⟩ : ∃ m, m = min (f2 j).xs.length 100 := ⟨_, rfl⟩
              obtain ⟨xs, hxs⟩ : ∃ xs, xs = cutP 100 (f2 j).xs := ⟨_, rfl⟩
              have hxl : xs.length = m := by rw [hm, hxs]; exact cutP_len 100 _
              have HX : Hid (BytesIn w0 (f2 j).a xs ∧ (∀ x ∈ xs, x < 256) ∧ ((f2 j).a = none → (f2 j).c = 0)) := ⟨by rw [hxs]; exact hby.take _, fun x hx => hbt x (by rw [hxs] at hx; exact List.mem_of_mem_take hx), hnl⟩
              have HXL := Lib.hid hxl
              have hmm : min ((f2 j).xs.length : Int) 100 = (m : Int) := by omega
              have hmc : (m : Int) ≤ ((f2 j).c : Int) := by omega
              have hm0 : (0 : Int) ≤ (m : Int) := by omega
              have hm100 : m ≤ 100 := by omega
              clear hcl0 hby hbt hnl hcp hm hxs hxl
              generalize (f2 j).a = ta at *
              generalize (f2 j).xs.length = l at *
              generalize (f2 j).c = tc at *
              go_wp2_with fail
              refine wp_region_noPanic ?_
              refine wp_region_held_drew (S := fun V => Below wr.heap.size wr V) (by kernel_rfl) (below_drew _) (fun hHeld => ?_)
              refine take_at 0 (.slice none 0 0) rfl (by kernel_rfl) (by kernel_rfl) (by kernel_rfl) (fun _ _ _ h => h) (Or.inl ⟨by rfl, ?_⟩) (by assumption) ?_
              · intro V hSV; go_simp
              simp only [Act.put, List.setIfInBounds_toArray, List.set_cons_zero, List.set_cons_succ]
              refine take_at 1 (.slice (some ⟨b, o, none⟩) n2 c2) rfl (by kernel_rfl) (by kernel_rfl) (by kernel_rfl) (fun _ _ _ h => h) (Or.inl ⟨by rfl, ?_⟩) (by assumption) ?_
              · intro V hSV; go_simp
              simp only [Act.put, List.setIfInBounds_toArray, List.set_cons_zero, List.set_cons_succ]
              refine take_at 2 (.int .i64 j) rfl (by kernel_rfl) (by kernel_rfl) (by kernel_rfl) (fun _ _ _ h => h) (Or.inl ⟨by rfl, ?_⟩) (by assumption) ?_
              · intro V hSV; go_simp
              simp only [Act.put, List.setIfInBounds_toArray, List.set_cons_zero, List.set_cons_succ]
              refine take_at 3 (.pointer (some ⟨b, o + j, none⟩)) rfl (by kernel_rfl) (by kernel_rfl) (by kernel_rfl) (fun _ _ _ h => h) (Or.inl ⟨by rfl, ?_⟩) (by assumption) ?_
              · intro V hSV; go_simp
              simp only [Act.put, List.setIfInBounds_toArray, List.set_cons_zero, List.set_cons_succ]
              refine take_at 4 (.slice ta l tc) rfl (by kernel_rfl) (by kernel_rfl) (by kernel_rfl) (fun _ _ _ h => h) (Or.inl ⟨by rfl, ?_⟩) (by assumption) ?_
              · intro V hSV; have e0 := FC.out V hSV; go_simp
              simp only [Act.put, List.setIfInBounds_toArray, List.set_cons_zero, List.set_cons_succ]
              refine take_at 5 (.slice (some ⟨b, o, none⟩) n2 c2) rfl (by kernel_rfl) (by kernel_rfl) (by kernel_rfl) (fun _ _ _ h => h) (Or.inl ⟨by rfl, ?_⟩) (by assumption) ?_
              · intro V hSV; go_simp
              simp only [Act.put, List.setIfInBounds_toArray, List.set_cons_zero, List.set_cons_succ]
              refine take_at 6 (.int .i64 j) rfl (by kernel_rfl) (by kernel_rfl) (by kernel_rfl) (fun _ _ _ h => h) (Or.inl ⟨by rfl, ?_⟩) (by assumption) ?_
              · intro V hSV; go_simp
              simp only [Act.put, List.setIfInBounds_toArray, List.set_cons_zero, List.set_cons_succ]
              refine take_at 7 (.pointer (some ⟨b, o + j, none⟩)) rfl (by kernel_rfl) (by kernel_rfl) (by kernel_rfl) (fun _ _ _ h => h) (Or.inl ⟨by rfl, ?_⟩) (by assumption) ?_
              · intro V hSV; go_simp
              simp only [Act.put, List.setIfInBounds_toArray, List.set_cons_zero, List.set_cons_succ]
              refine take_at 8 (.slice ta l tc) rfl (by kernel_rfl) (by kernel_rfl) (by kernel_rfl) (fun _ _ _ h => h) (Or.inl ⟨by rfl, ?_⟩) (by assumption) ?_
              · intro V hSV; have e0 := FC.out V hSV; go_simp
              simp only [Act.put, List.setIfInBounds_toArray, List.set_cons_zero, List.set_cons_succ]
              refine take_at 9 (.int .i64 l) rfl (by kernel_rfl) (by kernel_rfl) (by kernel_rfl) (fun _ _ _ h => h) (Or.inl ⟨by rfl, ?_⟩) (by assumption) ?_
              · intro V hSV; go_simp
              simp only [Act.put, List.setIfInBounds_toArray, List.set_cons_zero, List.set_cons_succ]
              refine take_at 10 (.int .i64 m) rfl (by kernel_rfl) (by kernel_rfl) (by kernel_rfl) (fun _ _ _ h => h) (Or.inl ⟨by rfl, ?_⟩) (by assumption) ?_
              · intro V hSV; go_simp
              simp only [Act.put, List.setIfInBounds_toArray, List.set_cons_zero, List.set_cons_succ]
              refine take_at 11 (.slice ta m tc) rfl (by kernel_rfl) (by kernel_rfl) (by kernel_rfl) (fun _ _ _ h => h) (Or.inl ⟨by rfl, ?_⟩) (by assumption) ?_
              · intro V hSV; go_simp
              simp only [Act.put, List.setIfInBounds_toArray, List.set_cons_zero, List.set_cons_succ]
              refine wpAnyH_ready (rs := [12]) (by kernel_rfl) (by simp) ?_
              refine cons_op 12 rfl (fun KK hK => ?_) AllReadyH.nil
              refine step_append_bytes _ rfl _ _ rfl wr.heap.size _ [] xs rfl (own_nil _ _) ta m tc rfl HXL.out HX.out.2.2 ((HX.out.1.on HLI2.out.bw).on hHeld) (by rw [HXL.out]; simp; omega) (Nat.le_refl _) ?_
              intro v5 w5 hown5 hgrow5
              have hb5 : Below wr.heap.size wr w5 := (below_drew wr).grown hgrow5 (Nat.le_refl _) (fun k hk => by cases hk)
              rw [List.nil_append] at hown5
              obtain ⟨xa, xc, hv5, _, _⟩ := hown5.bytes
              rw [HXL.out] at hv5
              subst hv5
              refine hK.out _ _ hb5 (fun hHeld12 => ?_)
              simp only [Act.put, List.setIfInBounds_toArray, List.set_cons_zero, List.set_cons_succ]
              have HO5 := Lib.hid hown5
              have HB5 := Lib.hid hb5
              clear hK KK hown5 hgrow5 hb5
              refine take_at 13 (.slice xa m xc) rfl (by kernel_rfl) (by kernel_rfl) (by kernel_rfl) (fun _ _ _ h => h) (Or.inl ⟨by rfl, ?_⟩) (by assumption) ?_
              · intro V hSV; go_simp
              simp only [Act.put, List.setIfInBounds_toArray, List.set_cons_zero, List.set_cons_succ]
              refine wpAnyH_done (by kernel_rfl) ?_ _
              refine NoPanic.normal ?_
              clear hHeld hHeld12 FC
              by_cases hm00 : m = 0
              · have HN1 : Hid (Ag2At w0 bx q2 (.slice ta3 zl tc3) (j + 1) w5) := ⟨d, K, J2, rv3, ev3, ta3, tc3, by rw [HZL.out], by rw [HZL.out]; exact htc, HLI2.out.on HB5.out, HAg.out.more, HLF.out.ext (Ext.of_below _ HB5.out)⟩
                subst hm00
                clear HO5 HX HXL HLF HAg HLI2
                go_wp2_with fail
                go_roundw
                case rel => exact ⟨_, j + 1, rfl, by go_num, by omega, by omega, HN1⟩
                case measure => simp [intOf]; omega
              · have hz : ((m : Int) == 0) = false := by simpa using (by omega : ¬ (m : Int) = 0)
                have hx0 : xs ≠ [] := fun e => hm00 (by rw [← HXL.out, e]; rfl)
                have HAp := Lib.hid (ag_app HLI2.out HAg.out hl2 HB5.out (HLF.out.ext (Ext.of_below _ HB5.out)) (.slice xa m xc) xs (by rw [HXL.out]; exact hm100) hx0 HX.out.2.1 (own_payF HLI2.out.jn HO5.out hx0))
                have HFl2 : Hid (∀ V rv ev, LI w0 bx q2 64 d K (plusJ J2 xs) rv ev V → ListF V (MineL w0 q2 rv ev) ta3 J2.pss → PayF V (MineL w0 q2 rv ev) (.slice xa m xc) xs → Calls Try.prog 11 #[.pointer (some ⟨q2, 0, none⟩)] V fun e w' => e = .returned .nilIface ∧ ∃ d' K' J' rv ev, LI w0 bx q2 64 d' K' J' rv ev w' ∧ AgI (j + 1) d' K' J' ∧ J'.pss = J2.pss ++ [xs] ∧ ListF w' (MineL w0 q2 rv ev) ta3 J2.pss ∧ PayF w' (MineL w0 q2 rv ev) (.slice xa m xc) xs) := fun V rv ev g1 g2 g3 => ag_safe g1 HAg.out hl2 (by rw [HXL.out]; exact hm100) g2 g3
                have hnone : ta3 = none → zl = 0 ∧ zl = 0 := fun e => by
                  have : ¬ 0 < zl := fun hp => by
                    obtain ⟨b3, o3, h3, _⟩ := HLF.out 0 (by rw [HZL.out]; exact hp)
                    rw [e] at h3; cases h3
                  omega
                have hzc : (zl : Int) ≤ (tc3 : Int) := by omega
                have hz0' : (0 : Int) ≤ (zl : Int) := by omega
                obtain ⟨i0, hi, hz0, hz1, hz2⟩ := info_parts infoR
                clear hx0 hm00 HO5 HX HXL HLF HAg HLI2
                go_wp2_with (first
                  | (go_at_call 10; refine HAp.out.mono ?_; rintro e w6 ⟨rfl, rv6, ev6, hL6, hls6, hp6⟩
                     have HF6 := Lib.hid (HFl2.out _ _ _ hL6 hls6 hp6)
                     clear hL6 hls6 hp6)
                  | (go_at_call 11; refine HF6.out.mono ?_; rintro e w7 ⟨rfl, d7, K7, J7, rv7, ev7, hL7, hA7, hp7, hls7, hpay7⟩
                     have hab := below_alloc w7 (.cells #[.slice xa m xc] 40)
                     obtain ⟨vs, hvs1, hvs2, hvs3⟩ := (hls7.ext (Ext.of_below _ hab)).vals
                     have HV7 := Lib.hid (And.intro (slices_one hvs1 hvs3 (hpay7.ext (Ext.of_below _ hab))) (And.intro (hL7.on hab) (And.intro hA7 hp7)))
                     have HVs := Lib.hid hvs2
                     rw [HZL.out] at hvs1
                     have HVl := Lib.hid hvs1
                     clear hab hvs1 hvs2 hvs3 hL7 hA7 hp7 hls7 hpay7)
                  | (at_builtin; refine wpList_append_grows _ rfl _ _ _ rfl 40 i0 _ 1 24 Try.underlying22 hi hz0 hz1 hz2 rfl (by decide) ta3 zl zl vs rfl hnone (by rw [HVl.out]; omega) HVs.out ⟨w7.heap.size, 0, none⟩ 1 1 [.slice xa m xc] rfl rfl (fun jj u hj => by
                       match jj, hj with
                       | 0, hj => cases hj; rw [Addr.add_lit, Nat.add_zero]; exact cell_of (World.alloc_heap_new' _ _) rfl) (fun y hy => by simp at hy; rw [hy]; rfl) (by omega) (by unfold maxLen; omega) (by omega) ?_
                     intro v9 w9 hown9 hgrow9
                     have HOg := Lib.hid (And.intro hown9 hgrow9)
                     clear hown9 hgrow9)
                  | fail)
                have HI9 : Hid (Ag2At w0 bx q2 v9 (j + 1) w9) := by
                  obtain ⟨hown9, hgrow9⟩ := HOg.out
                  have hb9 := below_grown_none hgrow9
                  have hl9 : (vs ++ [Value.slice xa m xc]).length = (J2.pss ++ [xs]).length := by rw [List.length_append, List.length_append, HVl.out, HZL.out]; rfl
                  have ho9 : w9.ownsRow (w7.alloc (.cells #[.slice xa m xc] 40)).heap.size 40 1 v9 (J2.pss ++ [xs]).length (vs ++ [.slice xa m xc]) := by
                    rw [List.length_append, HZL.out]; exact hown9
                  obtain ⟨la9, lc9', hv9, hcap9', hLF9⟩ := listF_new (M := MineL w0 q2 rv7 ev7) (fun k hk => (HV7.out.2.1.jn.mine k hk).2) hl9 HV7.out.1 ho9 hb9
                  exact ⟨d7, K7, J7, rv7, ev7, la9, lc9', by rw [hv9, HV7.out.2.2.2], by rw [HV7.out.2.2.2]; exact hcap9', HV7.out.2.1.on hb9, HV7.out.2.2.1, by rw [HV7.out.2.2.2]; exact hLF9⟩
                go_roundw
                case rel => exact ⟨_, j + 1, rfl, by go_num, by omega, by omega, HI9⟩
                case measure => simp [intOf]; omega
            · have hexj : (¬ (j : Int) < (n2 : Int)) ∨ ((j : Int) < (n2 : Int) ∧ ¬ (j : Int) < 15) := by omega
              have hag := HAg.out
              have hokJ := HLI2.out.jn.jr.ok
              have htold := hag.calm.told hokJ []
              rw [hag.a, hag.ep, hag.sf, List.take_length] at htold
              have hrest : Rest (restartD d []) (arN 64) := Rest.restart hag.calm.ok (by rw [← hag.a]; exact hag.calm.inn) (by rw [hag.dim.1, hag.dim.2]; decide) []
              have hK9 := hag.K
              have HRs := Lib.hid (ag_restart HLI2.out HLF.out.list none [] 0 0 rfl (intsIn_nil _ _) (fun b o e => by cases e) (by decide))
              have HOp : Hid (∀ V, DevIn V (w0.heap.size + 2) w0.heap.size (w0.heap.size + 1) (restartD d []) K → Below w0.heap.size w0 V → ArAt V bx (arN 64) → ListIn V ta3 J2.pss → Calls Try.prog 7 #[.pointer (some ⟨w0.heap.size + 2, 0, none⟩), .agg #[.int .i64 0, .int .i64 0, .int .i64 64], .int .u64 7] V fun e w' => ∃ q3 la4 lc4, e = .returned (.tuple #[.pointer (some ⟨q3, 0, none⟩), .slice la4 zl lc4, .nilIface]) ∧ ListIn w' la4 J2.pss ∧ ListIn w' ta3 J2.pss ∧ Below w0.heap.size w0 w') := fun V g1 g2 g3 g4 => by
                refine (ag_open g1 hrest (by omega) g2 g3 hbx g4).mono fun e w' ⟨q3, la4, lc4, rv4, ev4, k1, k2, k3, k4, k5⟩ => ?_
                rw [htold] at k1 k3
                rw [HZL.out] at k1
                exact ⟨q3, la4, lc4, k1, k3.list, k5, k2.bw⟩
              have HLs9 : Hid (∀ V la4 lc4, ListIn V la4 J2.pss → ListIn V ta3 J2.pss → Calls Try.prog 18 #[.slice la4 zl lc4, .slice ta3 zl tc3] V fun e w' => e = .returned (.bool true) ∧ Below V.heap.size V w') := fun V la4 lc4 g1 g2 => lists_ la4 ta3 J2.pss zl lc4 tc3 V HZL.out (by omega) g1 g2
              clear hag hokJ htold hrest HLI2 HAg HLF hgo
              rcases hexj with hy1 | ⟨hy1, hy2⟩
              all_goals
                go_wp2_with (first
                  | (go_at_call 12; refine HRs.out.mono ?_; rintro e w6 ⟨rfl, h51, h52, h53, h54⟩
                     obtain ⟨x0, x1, x2⟩ := h52.cells
                     have HO6 := Lib.hid (HOp.out _ h51 h54 h52 h53)
                     clear h51 h52 h53 h54)
                  | (go_at_call 7; refine HO6.out.mono ?_; rintro e w7 ⟨q3, la4, lc4, rfl, g1, g2, g3⟩
                     have HL9 := Lib.hid (HLs9.out _ la4 lc4 g1 g2)
                     have HB7 := Lib.hid g3
                     clear g1 g2 g3)
                  | (go_at_call 18; refine HL9.out.mono ?_; rintro e w8 ⟨rfl, hb8⟩; have HB8 := Lib.hid (below_step HB7.out hb8); clear hb8)
                  | (go_at_call 14; refine (HSu.out _).mono ?_; rintro e w9 ⟨rfl, hb9⟩; have HB9 := Lib.hid (HBq.out.trans ((below_step HB8.out hb9).mono HBq.out.size)); clear hb9)
                  | fail)
                go_ret
                exact ⟨rfl, HB9.out⟩
end Go.Proofs.Ytjnhcanohefjiaa
