/- The walk of the document's Text. -/
import Derived.Test.YtlgnllnjhpihdaaDoorTbRCheck
import Derived.Test.YtlgnllnjhpihdaaDoorTbFr
namespace Go.Proofs.YtlgnllnjhpihdaaDoor
open Go.RowKit Go.Sort

/-- A table's text as far as the i-th column. -/
def upTo (nm : ByteArray) (cs : List Col) (i : Nat) : ByteArray := ⟨#[84, 65, 66, 76, 69, 32]⟩ ++ nm ++ ⟨#[32, 40]⟩ ++ ofL (Lib.join ((cs.take i).map colT) [44, 32])
theorem join_snoc (x : List UInt8) : ∀ (xs : List (List UInt8)), xs ≠ [] → Lib.join (xs ++ [x]) [44, 32] = Lib.join xs [44, 32] ++ ([44, 32] ++ x)
  | [], h => absurd rfl h
  | [y], _ => by rw [List.cons_append, List.nil_append, join_two, Lib.join_one, Lib.join_one]
  | y :: z :: r, _ => by
    rw [List.cons_append, List.cons_append, join_two, join_two, ← List.cons_append, join_snoc x (z :: r) (by simp)]
    simp only [List.append_assoc]
theorem upTo_zero (nm : ByteArray) (cs : List Col) : upTo nm cs 0 = ⟨#[84, 65, 66, 76, 69, 32]⟩ ++ nm ++ ⟨#[32, 40]⟩ := by
  apply ba_ext
  simp only [upTo, List.take_zero, List.map_nil, Lib.join_nil, ba_append, ofL]
  simp
theorem upTo_one (nm : ByteArray) (cs : List Col) (h : 0 < cs.length) : upTo nm cs 1 = upTo nm cs 0 ++ ofL (colT cs[0]) := by
  rw [upTo_zero, upTo, List.take_add_one, List.take_zero, List.getElem?_eq_getElem h]
  show _ ++ ofL (Lib.join [colT cs[0]] [44, 32]) = _
  rw [Lib.join_one]
theorem upTo_step (nm : ByteArray) (cs : List Col) (i : Nat) (h : i < cs.length) (h0 : 0 < i) : upTo nm cs (i + 1) = upTo nm cs i ++ ⟨#[44, 32]⟩ ++ ofL (colT cs[i]) := by
  have hne : (cs.take i).map colT ≠ [] := fun e => by
    have := congrArg List.length e
    rw [List.length_map, List.length_take, List.length_nil] at this
    omega
  apply ba_ext
  rw [upTo, List.take_add_one, List.getElem?_eq_getElem h, List.map_append]
  show (_ ++ ofL (Lib.join ((cs.take i).map colT ++ [colT cs[i]]) [44, 32])).data.toList = _
  rw [join_snoc _ _ hne]
  simp only [upTo, ba_append, ofL, List.append_assoc]
theorem upTo_len {t : Tab} (h : RightT t) (i : Nat) : (upTo t.nm t.cs i).size ≤ 800 := by
  have h1 : t.nm.size ≤ 32 := by rw [size_lst]; exact (name_ok h.nm).2.1
  have h2 := join_len (t.cs.take i) (fun c hc => h.cols c (List.mem_of_mem_take hc))
  have h3 := h.len
  have h4 : (t.cs.take i).length ≤ 16 := by rw [List.length_take]; omega
  have h5 : (⟨#[84, 65, 66, 76, 69, 32]⟩ : ByteArray).size = 6 := rfl
  have h6 : (⟨#[32, 40]⟩ : ByteArray).size = 2 := rfl
  rw [upTo, ByteArray.size_append, ByteArray.size_append, ByteArray.size_append, ofL_size, h5, h6]
  omega
theorem txtS_upTo {t : Tab} (h : chkT t = 0) : txtS t = upTo t.nm t.cs t.cs.length ++ ⟨#[41]⟩ := by
  rw [txtS_ok h, upTo, List.take_length]; rfl
def arr4 : Array Value := #[.string ⟨#[]⟩, .string ⟨#[73, 78, 84]⟩, .string ⟨#[84, 69, 88, 84]⟩, .string ⟨#[66, 79, 79, 76]⟩]
theorem run_build4 (w : World) (a : Act) (o : Oper) (h : o.op = .buildSlice 59 4 #[(0, .const (.string ⟨#[]⟩)), (1, .const (.string ⟨#[73, 78, 84]⟩)), (2, .const (.string ⟨#[84, 69, 88, 84]⟩)), (3, .const (.string ⟨#[66, 79, 79, 76]⟩))]) : (execOp a.eval o).run Tryd.prog w = .ok (.value (.slice (some ⟨w.heap.size, 0, none⟩) 4 4)) (w.alloc (.cells arr4 9)) := by
  unfold execOp arr4
  simp only [h, List.map_toArray, List.map_cons, List.map_nil, Act.eval]
  simp [Instr.buildSlice, go_sem]
theorem run_load9 (w : World) (p : Addr) (s : ByteArray) (hc : w.cell? p = some (.string s)) (a : Act) (o : Oper) (x : Operand) (h : o.op = .load 9 x) (hx : a.eval x = .pointer (some p)) : (execOp a.eval o).run Tryd.prog w = .ok (.value (.string s)) w := by
  unfold execOp
  simp only [h, hx]
  simp [Instr.loadAt, go_sem, hc]
theorem ba_cat (a b c d : ByteArray) (e : ByteArray) : a ++ (b ++ c ++ d ++ e) = a ++ b ++ c ++ d ++ e := by
  apply ba_ext
  simp only [ba_append, List.append_assoc]
theorem ba_cat3 (a b c d : ByteArray) : a ++ (b ++ c ++ d) = a ++ b ++ c ++ d := by
  apply ba_ext
  simp only [ba_append, List.append_assoc]
theorem ba_nil (a : ByteArray) : a ++ ⟨#[]⟩ = a := by
  apply ba_ext
  rw [ba_append]; simp
/-- A column's mark. -/
def markS (y nl : Bool) : ByteArray := if y = true then ⟨#[32, 75, 69, 89]⟩ else if nl = true then ⟨#[32, 78, 85, 76, 76]⟩ else ⟨#[]⟩
theorem colT_mark {c : Col} (h : RightC c) : ofL (colT c) = c.nm ++ ⟨#[32]⟩ ++ kindS c.k ++ markS c.key c.nul := by
  obtain ⟨nm, k, y, nl⟩ := c
  apply ba_ext
  have hk := kindS_W h.k
  simp only at hk
  cases y <;> cases nl <;> simp only [ba_append, hk, colT, lst, ofL, markS, if_true, if_false, Bool.false_eq_true, List.append_assoc] <;> simp
set_option maxRecDepth 100000 in
set_option maxHeartbeats 2000000 in
theorem rtext_ (nm : ByteArray) (at_ : Option Addr) (ct : Nat) (cs : List Col) (w : World) (hc : ColsIn w at_ cs) (hsn : nm.size ≤ 140737488355328) (hsc : ∀ c ∈ cs, c.nm.size ≤ 140737488355328) :
    Calls Tryd.prog 9 #[.agg #[.string nm, .slice at_ cs.length ct]] w fun e w' => e = .returned (.tuple #[.string (txtS ⟨nm, cs⟩), .int .i64 (chkT ⟨nm, cs⟩)]) ∧ Below w.heap.size w w' := by
  obtain ⟨V, hV⟩ : ∃ V, V = w.alloc (.cells #[.string nm, .slice at_ cs.length ct] 24) := ⟨_, rfl⟩
  have hB0 : Below w.heap.size w V := by rw [hV]; exact below_alloc1 _ _
  have hT : InT V w.heap.size nm at_ cs.length ct := by rw [hV]; exact inT_new _ _ _ _ _ _
  have HCk := Lib.hid (rtcheck_ nm at_ ct cs V (hc.on hB0) hsn hsc)
  obtain ⟨C, hC⟩ : ∃ C, cs.length = C := ⟨_, rfl⟩
  have HC := Lib.hid hC
  have HB0 := Lib.hid hB0
  have HT := Lib.hid hT
  have HJ := Lib.hid (hc.on hB0)
  have HVe := Lib.hid hV.symm
  rw [hC] at HCk HT hT HVe ⊢
  by_cases h0 : chkT ⟨nm, cs⟩ = 0
  · have hr := right_of_chk h0
    have HR := Lib.hid hr
    have hC16 : C ≤ 16 := by rw [← hC]; exact hr.len
    have hnm : nm.size ≤ 32 := by rw [size_lst]; exact (name_ok hr.nm).2.1
    have HS : Hid (txtS ⟨nm, cs⟩ = upTo nm cs C ++ ⟨#[41]⟩) := by
      show _ = _
      rw [txtS_upTo h0]
      show upTo nm cs cs.length ++ _ = _
      rw [hC]
    have HZ := Lib.hid (upTo_zero nm cs)
    have HL : Hid (∀ i, (upTo nm cs i).size ≤ 800) := fun i => upTo_len hr i
    have HU1 : Hid (∀ h : 0 < cs.length, upTo nm cs 1 = upTo nm cs 0 ++ ofL (colT cs[0])) := fun h => upTo_one nm cs h
    have HUs : Hid (∀ i (h : i < cs.length), 0 < i → upTo nm cs (i + 1) = upTo nm cs i ++ ⟨#[44, 32]⟩ ++ ofL (colT cs[i])) := fun i h h0 => upTo_step nm cs i h h0
    rw [h0] at HCk ⊢
    generalize txtS ⟨nm, cs⟩ = S at *
    have hx1 : (⟨#[84, 65, 66, 76, 69, 32]⟩ ++ nm : ByteArray).size ≤ 38 := by
      have : (⟨#[84, 65, 66, 76, 69, 32]⟩ : ByteArray).size = 6 := rfl
      rw [ByteArray.size_append]; omega
    clear hr h0 hc hB0 hT hC hV hsn hsc
    go_enter Tryd.func9, Tryd.ntmps9
    go_wp2_with fail
    rw [HVe.out]
    obtain ⟨t0, t1⟩ := HT.out
    go_wp2_with fail
    refine HCk.out.mono ?_
    rintro e w1 ⟨rfl, hb1⟩
    have HB1 := Lib.hid (below_step HB0.out hb1)
    have HT1 := Lib.hid (HT.out.on hb1)
    have HJ1 := Lib.hid (HJ.out.on hb1)
    obtain ⟨s0, s1⟩ := HT1.out
    clear hb1 t0 t1 HCk HT HJ
    go_wp2_with fail
    clear s0 s1 hx1
    go_loopw [5, 6] (fun sv iv wr => ∃ i : Nat, i ≤ C ∧ iv = .int .i64 i ∧ sv = .string (upTo nm cs i) ∧ Hid (Below w1.heap.size w1 wr)) (fun _ iv _ => C - (intOf iv).toNat)
    case atStart => exact ⟨0, Nat.zero_le _, rfl, by rw [HZ.out], Below.refl _ _⟩
    case round =>
      obtain ⟨i, hi, rfl, rfl, HBw⟩ := hrel
      obtain ⟨s0, s1⟩ := HT1.out.on HBw.out
      have hsz := HL.out i
      by_cases hlt : i < C
      · have hlt2 : (i : Int) < (C : Int) := by omega
        have hi1 : i < cs.length := by rw [HC.out]; exact hlt
        obtain ⟨b1, o1, rfl, cn, kc, ky, nl, hci, q0, q1, q2, q3⟩ := ColsIn.get (HJ1.out.on HBw.out) i hi1
        simp only at q0 q1 q2 q3
        have hrc : RightC ⟨cn, kc, ky, nl⟩ := by rw [← hci]; exact HR.out.cols _ (List.getElem_mem hi1)
        have hcn : cn.size ≤ 32 := by rw [size_lst]; exact (name_ok hrc.nm).2.1
        have hmk := colT_mark hrc
        simp only at hmk
        have HStep : Hid (upTo nm cs (i + 1) = (if 0 < i then upTo nm cs i ++ ⟨#[44, 32]⟩ else upTo nm cs i) ++ (cn ++ ⟨#[32]⟩ ++ kindS kc ++ markS ky nl)) := by
          show _ = _
          rw [← hmk, ← hci]
          by_cases h0 : 0 < i
          · rw [if_pos h0, HUs.out i hi1 h0]
          · obtain rfl : i = 0 := by omega
            rw [if_neg h0, HU1.out hi1]
        have HCo := Lib.hid (inC_new wr ⟨cn, kc, ky, nl⟩ 55)
        have HBa := Lib.hid (below_step HBw.out (below_alloc1 wr (.cells #[.string cn, .int .i64 kc, .bool ky, .bool nl] 55)))
        obtain ⟨T1, hT1⟩ : ∃ T1, T1 = (if 0 < i then upTo nm cs i ++ ⟨#[44, 32]⟩ else upTo nm cs i) := ⟨_, rfl⟩
        have hT1s : T1.size ≤ 802 := by
          rw [hT1]
          split
          · have : (⟨#[44, 32]⟩ : ByteArray).size = 2 := rfl
            rw [ByteArray.size_append]; omega
          · omega
        have hks := kindS_size kc
        rw [← hT1] at HStep
        have HT1 := Lib.hid hT1
        obtain ⟨TN, hTN⟩ : ∃ TN, upTo nm cs (i + 1) = TN := ⟨_, rfl⟩
        have HTN := Lib.hid hTN
        rw [hTN] at HStep
        generalize upTo nm cs i = T0 at *
        have hkk := hrc.k
        simp only at hkk
        have hkn := hrc.kn
        simp only at hkn
        clear hci hi1 hrc hmk hT1 hTN
        obtain ⟨Wc, hWc⟩ : ∃ Wc, Wc = wr.alloc (.cells #[.string cn, .int .i64 kc, .bool ky, .bool nl] 55) := ⟨_, rfl⟩
        have HWc := Lib.hid hWc.symm
        rw [← hWc] at HCo HBa
        obtain ⟨Bc, hBc⟩ : ∃ Bc, wr.heap.size = Bc := ⟨_, rfl⟩
        rw [hBc] at HCo
        have HA0 : Hid (∀ V : World, V.cell? ⟨Bc, 0, none⟩ = some (.string cn) ∧ V.cell? ⟨Bc, 1, none⟩ = some (.int .i64 kc) → V.cell? ⟨Bc, 0, none⟩ = some (.string cn)) := fun _ h => h.1
        have HA1 : Hid (∀ V : World, V.cell? ⟨Bc, 0, none⟩ = some (.string cn) ∧ V.cell? ⟨Bc, 1, none⟩ = some (.int .i64 kc) → V.cell? ⟨Bc, 1, none⟩ = some (.int .i64 kc)) := fun _ h => h.2
        have hin0 := HCo.out.on (below_drew Wc)
        have hin1 := hin0.on (below_alloc1 Wc.drew (.cells arr4 9))
        have HS0 : Hid (Wc.drew.cell? ⟨Bc, 0, none⟩ = some (.string cn) ∧ Wc.drew.cell? ⟨Bc, 1, none⟩ = some (.int .i64 kc)) := ⟨hin0.1, hin0.2.1⟩
        have HS1 : Hid ((Wc.drew.alloc (.cells arr4 9)).cell? ⟨Bc, 0, none⟩ = some (.string cn) ∧ (Wc.drew.alloc (.cells arr4 9)).cell? ⟨Bc, 1, none⟩ = some (.int .i64 kc)) := ⟨hin1.1, hin1.2.1⟩
        have hz1 : T1.size + cn.size ≤ 9223372036854775807 := by omega
        have hz2 : T1.size + cn.size ≤ 9223372036854775806 := by omega
        have hz3 : T1.size + cn.size ≤ 9223372036854775803 := by omega
        have hz4 : T1.size + cn.size ≤ 9223372036854775802 := by omega
        have hx1 : (T1 ++ cn : ByteArray).size ≤ 834 := by rw [ByteArray.size_append]; omega
        have hx2 : (T1 ++ cn ++ ⟨#[32]⟩ : ByteArray).size ≤ 835 := by
          have : (⟨#[32]⟩ : ByteArray).size = 1 := rfl
          rw [ByteArray.size_append]; omega
        have hx3 : (T1 ++ cn ++ ⟨#[32]⟩ ++ kindS kc : ByteArray).size ≤ 839 := by
          rw [ByteArray.size_append]; omega
        clear hWc hin0 hin1
        rcases hkk with rfl | rfl | rfl
        · have hK : kindS 1 = ⟨#[73, 78, 84]⟩ := rfl
          rw [hK] at HStep hx3
          clear hK hks
          by_cases hp : 0 < i
          · have hp2 : (0 : Int) < (i : Int) := by omega
            have HT2 : Hid (T0 ++ ⟨#[44, 32]⟩ = T1) := by show _ = _; rw [HT1.out, if_pos hp]
            clear HT1
            go_wp2_with fail
            rw [HWc.out, HT2.out]
            refine wp_region_noPanic ?_
            refine region_ph (A := (fun V => V.cell? ⟨Bc, 0, none⟩ = some (.string cn) ∧ V.cell? ⟨Bc, 1, none⟩ = some (.int .i64 1))) (e1 := 9999) (B := fun _ => True) (e2 := 9999) (C := fun _ => True) (by kernel_rfl) ⟨(HS0.out), fun _ => trivial, fun _ => trivial⟩ (fun hSt => ?_)
            refine take_ph 0 (.string T1) [] rfl (by kernel_rfl) (fun _ _ _ h => h) (Or.inl ⟨by rfl, ?_⟩) hSt (fun hSn => ?_)
            · intro V _; go_simp
            clear hSt; rename Ph _ _ _ _ _ _ _ => hSt
            simp only [Act.put, List.setIfInBounds_toArray, List.set_cons_zero, List.set_cons_succ]
            refine take_ph 1 (.pointer (some ⟨Bc, 0, none⟩)) [] rfl (by kernel_rfl) (fun _ _ _ h => h) (Or.inl ⟨by rfl, ?_⟩) hSt (fun hSn => ?_)
            · intro V _; go_simp
            clear hSt; rename Ph _ _ _ _ _ _ _ => hSt
            simp only [Act.put, List.setIfInBounds_toArray, List.set_cons_zero, List.set_cons_succ]
            refine take_ph 2 (.string cn) [] rfl (by kernel_rfl) (fun _ _ _ h => h) (Or.inl ⟨by rfl, ?_⟩) hSt (fun hSn => ?_)
            · rintro V ⟨hh, _, _⟩; have e0 := HA0.out V hh; clear hh; go_simp
            clear hSt; rename Ph _ _ _ _ _ _ _ => hSt
            simp only [Act.put, List.setIfInBounds_toArray, List.set_cons_zero, List.set_cons_succ]
            refine take_ph 3 (.string (T1 ++ cn)) [] rfl (by kernel_rfl) (fun _ _ _ h => h) (Or.inl ⟨by rfl, ?_⟩) hSt (fun hSn => ?_)
            · intro V _; go_simp
            clear hSt; rename Ph _ _ _ _ _ _ _ => hSt
            simp only [Act.put, List.setIfInBounds_toArray, List.set_cons_zero, List.set_cons_succ]
            refine take_ph 4 (.string (T1 ++ cn ++ ⟨#[32]⟩)) [] rfl (by kernel_rfl) (fun _ _ _ h => h) (Or.inl ⟨by rfl, ?_⟩) hSt (fun hSn => ?_)
            · intro V _; go_simp
            clear hSt; rename Ph _ _ _ _ _ _ _ => hSt
            simp only [Act.put, List.setIfInBounds_toArray, List.set_cons_zero, List.set_cons_succ]
            refine take_ph 6 (.pointer (some ⟨Bc, 1, none⟩)) [] rfl (by kernel_rfl) (fun _ _ _ h => h) (Or.inl ⟨by rfl, ?_⟩) hSt (fun hSn => ?_)
            · intro V _; go_simp
            clear hSt; rename Ph _ _ _ _ _ _ _ => hSt
            simp only [Act.put, List.setIfInBounds_toArray, List.set_cons_zero, List.set_cons_succ]
            refine take_ph 7 (.int .i64 1) [] rfl (by kernel_rfl) (fun _ _ _ h => h) (Or.inl ⟨by rfl, ?_⟩) hSt (fun hSn => ?_)
            · rintro V ⟨hh, _, _⟩; have e0 := HA1.out V hh; clear hh; go_simp
            clear hSt; rename Ph _ _ _ _ _ _ _ => hSt
            simp only [Act.put, List.setIfInBounds_toArray, List.set_cons_zero, List.set_cons_succ]
            refine ready_ph 5 rfl (by kernel_rfl) rfl (.inl (run_build4 _ _ _ rfl)) (⟨HS1.out, fun _ => trivial, fun _ => trivial⟩) (fun hSn => ?_)
            clear hSt; rename Ph _ _ _ _ _ _ _ => hSt
            simp only [Act.put, List.setIfInBounds_toArray, List.set_cons_zero, List.set_cons_succ]
            refine take_ph 8 (.pointer (some ⟨Wc.drew.heap.size, 1, none⟩)) [] rfl (by kernel_rfl) (fun _ _ _ h => h) (Or.inl ⟨by rfl, ?_⟩) hSt (fun hSn => ?_)
            · intro V _; go_simp
            clear hSt; rename Ph _ _ _ _ _ _ _ => hSt
            simp only [Act.put, List.setIfInBounds_toArray, List.set_cons_zero, List.set_cons_succ]
            refine ready_ph 9 rfl (by kernel_rfl) rfl (.inl (run_load9 _ ⟨Wc.drew.heap.size, 1, none⟩ ⟨#[73, 78, 84]⟩ (by simp [arr4, go_sem]) _ _ _ rfl rfl)) (⟨HS1.out, fun _ => trivial, fun _ => trivial⟩) (fun hSn => ?_)
            clear hSt; rename Ph _ _ _ _ _ _ _ => hSt
            simp only [Act.put, List.setIfInBounds_toArray, List.set_cons_zero, List.set_cons_succ]
            refine take_ph 10 (.string (T1 ++ cn ++ ⟨#[32]⟩ ++ ⟨#[73, 78, 84]⟩)) [] rfl (by kernel_rfl) (fun _ _ _ h => h) (Or.inl ⟨by rfl, ?_⟩) hSt (fun hSn => ?_)
            · intro V _; go_simp
            clear hSt; rename Ph _ _ _ _ _ _ _ => hSt
            simp only [Act.put, List.setIfInBounds_toArray, List.set_cons_zero, List.set_cons_succ]
            refine take_ph 11 (.string (T1 ++ cn ++ ⟨#[32]⟩ ++ ⟨#[73, 78, 84]⟩)) [] rfl (by kernel_rfl) (fun _ _ _ h => h) (Or.inl ⟨by rfl, ?_⟩) hSt (fun hSn => ?_)
            · intro V _; go_simp
            clear hSt; rename Ph _ _ _ _ _ _ _ => hSt
            simp only [Act.put, List.setIfInBounds_toArray, List.set_cons_zero, List.set_cons_succ]
            refine done_ph (by kernel_rfl) ?_ _
            clear hSt
            refine NoPanic.normal ?_
            have HB2 := Lib.hid (below_step HBa.out (below_step (below_drew Wc) (below_alloc1 Wc.drew (.cells arr4 9))))
            have HC2 := Lib.hid (HCo.out.on (below_step (below_drew Wc) (below_alloc1 Wc.drew (.cells arr4 9))))
            obtain ⟨r0, r1, r2, r3⟩ := HC2.out
            simp only at r2 r3
            generalize Wc.drew.alloc (.cells arr4 9) = W4 at *
            generalize hT4 : (T1 ++ cn ++ ⟨#[32]⟩ ++ ⟨#[73, 78, 84]⟩ : ByteArray) = T4 at *
            have HT4 := Lib.hid hT4
            clear hT4 r0 r1 HS0 HS1 HWc HCo HBa HT2 hx1 hx2 hz1 hz2 hz3 hz4
            cases ky
            · cases nl
              · have HF : Hid (TN = T4) := by show _ = _; rw [HStep.out, ← HT4.out]; simp only [markS, ba_nil, ba_cat3, Bool.false_eq_true, if_false]
                clear HStep HT4
                go_wp2_with fail
                go_roundw
                case rel => exact ⟨i + 1, by omega, by go_num, by rw [HTN.out, HF.out], HB2⟩
                case measure => simp [intOf]; omega
              · have HF : Hid (TN = T4 ++ ⟨#[32, 78, 85, 76, 76]⟩) := by show _ = _; rw [HStep.out, ← HT4.out]; simp only [markS, ba_cat, Bool.false_eq_true, if_false, if_true]
                clear HStep HT4
                go_wp2_with fail
                go_roundw
                case rel => exact ⟨i + 1, by omega, by go_num, by rw [HTN.out, HF.out], HB2⟩
                case measure => simp [intOf]; omega
            · cases nl
              · have HF : Hid (TN = T4 ++ ⟨#[32, 75, 69, 89]⟩) := by show _ = _; rw [HStep.out, ← HT4.out]; simp only [markS, ba_cat, if_true]
                clear HStep HT4
                go_wp2_with fail
                go_roundw
                case rel => exact ⟨i + 1, by omega, by go_num, by rw [HTN.out, HF.out], HB2⟩
                case measure => simp [intOf]; omega
              · cases hkn
          · have hp2 : ¬ ((0 : Int) < (i : Int)) := by omega
            have HT2 : Hid (T0 = T1) := by show _ = _; rw [HT1.out, if_neg hp]
            clear HT1
            go_wp2_with fail
            rw [HWc.out, HT2.out]
            refine wp_region_noPanic ?_
            refine region_ph (A := (fun V => V.cell? ⟨Bc, 0, none⟩ = some (.string cn) ∧ V.cell? ⟨Bc, 1, none⟩ = some (.int .i64 1))) (e1 := 9999) (B := fun _ => True) (e2 := 9999) (C := fun _ => True) (by kernel_rfl) ⟨(HS0.out), fun _ => trivial, fun _ => trivial⟩ (fun hSt => ?_)
            refine take_ph 0 (.string T1) [] rfl (by kernel_rfl) (fun _ _ _ h => h) (Or.inl ⟨by rfl, ?_⟩) hSt (fun hSn => ?_)
            · intro V _; go_simp
            clear hSt; rename Ph _ _ _ _ _ _ _ => hSt
            simp only [Act.put, List.setIfInBounds_toArray, List.set_cons_zero, List.set_cons_succ]
            refine take_ph 1 (.pointer (some ⟨Bc, 0, none⟩)) [] rfl (by kernel_rfl) (fun _ _ _ h => h) (Or.inl ⟨by rfl, ?_⟩) hSt (fun hSn => ?_)
            · intro V _; go_simp
            clear hSt; rename Ph _ _ _ _ _ _ _ => hSt
            simp only [Act.put, List.setIfInBounds_toArray, List.set_cons_zero, List.set_cons_succ]
            refine take_ph 2 (.string cn) [] rfl (by kernel_rfl) (fun _ _ _ h => h) (Or.inl ⟨by rfl, ?_⟩) hSt (fun hSn => ?_)
            · rintro V ⟨hh, _, _⟩; have e0 := HA0.out V hh; clear hh; go_simp
            clear hSt; rename Ph _ _ _ _ _ _ _ => hSt
            simp only [Act.put, List.setIfInBounds_toArray, List.set_cons_zero, List.set_cons_succ]
            refine take_ph 3 (.string (T1 ++ cn)) [] rfl (by kernel_rfl) (fun _ _ _ h => h) (Or.inl ⟨by rfl, ?_⟩) hSt (fun hSn => ?_)
            · intro V _; go_simp
            clear hSt; rename Ph _ _ _ _ _ _ _ => hSt
            simp only [Act.put, List.setIfInBounds_toArray, List.set_cons_zero, List.set_cons_succ]
            refine take_ph 4 (.string (T1 ++ cn ++ ⟨#[32]⟩)) [] rfl (by kernel_rfl) (fun _ _ _ h => h) (Or.inl ⟨by rfl, ?_⟩) hSt (fun hSn => ?_)
            · intro V _; go_simp
            clear hSt; rename Ph _ _ _ _ _ _ _ => hSt
            simp only [Act.put, List.setIfInBounds_toArray, List.set_cons_zero, List.set_cons_succ]
            refine take_ph 6 (.pointer (some ⟨Bc, 1, none⟩)) [] rfl (by kernel_rfl) (fun _ _ _ h => h) (Or.inl ⟨by rfl, ?_⟩) hSt (fun hSn => ?_)
            · intro V _; go_simp
            clear hSt; rename Ph _ _ _ _ _ _ _ => hSt
            simp only [Act.put, List.setIfInBounds_toArray, List.set_cons_zero, List.set_cons_succ]
            refine take_ph 7 (.int .i64 1) [] rfl (by kernel_rfl) (fun _ _ _ h => h) (Or.inl ⟨by rfl, ?_⟩) hSt (fun hSn => ?_)
            · rintro V ⟨hh, _, _⟩; have e0 := HA1.out V hh; clear hh; go_simp
            clear hSt; rename Ph _ _ _ _ _ _ _ => hSt
            simp only [Act.put, List.setIfInBounds_toArray, List.set_cons_zero, List.set_cons_succ]
            refine ready_ph 5 rfl (by kernel_rfl) rfl (.inl (run_build4 _ _ _ rfl)) (⟨HS1.out, fun _ => trivial, fun _ => trivial⟩) (fun hSn => ?_)
            clear hSt; rename Ph _ _ _ _ _ _ _ => hSt
            simp only [Act.put, List.setIfInBounds_toArray, List.set_cons_zero, List.set_cons_succ]
            refine take_ph 8 (.pointer (some ⟨Wc.drew.heap.size, 1, none⟩)) [] rfl (by kernel_rfl) (fun _ _ _ h => h) (Or.inl ⟨by rfl, ?_⟩) hSt (fun hSn => ?_)
            · intro V _; go_simp
            clear hSt; rename Ph _ _ _ _ _ _ _ => hSt
            simp only [Act.put, List.setIfInBounds_toArray, List.set_cons_zero, List.set_cons_succ]
            refine ready_ph 9 rfl (by kernel_rfl) rfl (.inl (run_load9 _ ⟨Wc.drew.heap.size, 1, none⟩ ⟨#[73, 78, 84]⟩ (by simp [arr4, go_sem]) _ _ _ rfl rfl)) (⟨HS1.out, fun _ => trivial, fun _ => trivial⟩) (fun hSn => ?_)
            clear hSt; rename Ph _ _ _ _ _ _ _ => hSt
            simp only [Act.put, List.setIfInBounds_toArray, List.set_cons_zero, List.set_cons_succ]
            refine take_ph 10 (.string (T1 ++ cn ++ ⟨#[32]⟩ ++ ⟨#[73, 78, 84]⟩)) [] rfl (by kernel_rfl) (fun _ _ _ h => h) (Or.inl ⟨by rfl, ?_⟩) hSt (fun hSn => ?_)
            · intro V _; go_simp
            clear hSt; rename Ph _ _ _ _ _ _ _ => hSt
            simp only [Act.put, List.setIfInBounds_toArray, List.set_cons_zero, List.set_cons_succ]
            refine take_ph 11 (.string (T1 ++ cn ++ ⟨#[32]⟩ ++ ⟨#[73, 78, 84]⟩)) [] rfl (by kernel_rfl) (fun _ _ _ h => h) (Or.inl ⟨by rfl, ?_⟩) hSt (fun hSn => ?_)
            · intro V _; go_simp
            clear hSt; rename Ph _ _ _ _ _ _ _ => hSt
            simp only [Act.put, List.setIfInBounds_toArray, List.set_cons_zero, List.set_cons_succ]
            refine done_ph (by kernel_rfl) ?_ _
            clear hSt
            refine NoPanic.normal ?_
            have HB2 := Lib.hid (below_step HBa.out (below_step (below_drew Wc) (below_alloc1 Wc.drew (.cells arr4 9))))
            have HC2 := Lib.hid (HCo.out.on (below_step (below_drew Wc) (below_alloc1 Wc.drew (.cells arr4 9))))
            obtain ⟨r0, r1, r2, r3⟩ := HC2.out
            simp only at r2 r3
            generalize Wc.drew.alloc (.cells arr4 9) = W4 at *
            generalize hT4 : (T1 ++ cn ++ ⟨#[32]⟩ ++ ⟨#[73, 78, 84]⟩ : ByteArray) = T4 at *
            have HT4 := Lib.hid hT4
            clear hT4 r0 r1 HS0 HS1 HWc HCo HBa HT2 hx1 hx2 hz1 hz2 hz3 hz4
            cases ky
            · cases nl
              · have HF : Hid (TN = T4) := by show _ = _; rw [HStep.out, ← HT4.out]; simp only [markS, ba_nil, ba_cat3, Bool.false_eq_true, if_false]
                clear HStep HT4
                go_wp2_with fail
                go_roundw
                case rel => exact ⟨i + 1, by omega, by go_num, by rw [HTN.out, HF.out], HB2⟩
                case measure => simp [intOf]; omega
              · have HF : Hid (TN = T4 ++ ⟨#[32, 78, 85, 76, 76]⟩) := by show _ = _; rw [HStep.out, ← HT4.out]; simp only [markS, ba_cat, Bool.false_eq_true, if_false, if_true]
                clear HStep HT4
                go_wp2_with fail
                go_roundw
                case rel => exact ⟨i + 1, by omega, by go_num, by rw [HTN.out, HF.out], HB2⟩
                case measure => simp [intOf]; omega
            · cases nl
              · have HF : Hid (TN = T4 ++ ⟨#[32, 75, 69, 89]⟩) := by show _ = _; rw [HStep.out, ← HT4.out]; simp only [markS, ba_cat, if_true]
                clear HStep HT4
                go_wp2_with fail
                go_roundw
                case rel => exact ⟨i + 1, by omega, by go_num, by rw [HTN.out, HF.out], HB2⟩
                case measure => simp [intOf]; omega
              · cases hkn
        · have hK : kindS 2 = ⟨#[84, 69, 88, 84]⟩ := rfl
          rw [hK] at HStep hx3
          clear hK hks
          by_cases hp : 0 < i
          · have hp2 : (0 : Int) < (i : Int) := by omega
            have HT2 : Hid (T0 ++ ⟨#[44, 32]⟩ = T1) := by show _ = _; rw [HT1.out, if_pos hp]
            clear HT1
            go_wp2_with fail
            rw [HWc.out, HT2.out]
            refine wp_region_noPanic ?_
            refine region_ph (A := (fun V => V.cell? ⟨Bc, 0, none⟩ = some (.string cn) ∧ V.cell? ⟨Bc, 1, none⟩ = some (.int .i64 2))) (e1 := 9999) (B := fun _ => True) (e2 := 9999) (C := fun _ => True) (by kernel_rfl) ⟨(HS0.out), fun _ => trivial, fun _ => trivial⟩ (fun hSt => ?_)
            refine take_ph 0 (.string T1) [] rfl (by kernel_rfl) (fun _ _ _ h => h) (Or.inl ⟨by rfl, ?_⟩) hSt (fun hSn => ?_)
            · intro V _; go_simp
            clear hSt; rename Ph _ _ _ _ _ _ _ => hSt
            simp only [Act.put, List.setIfInBounds_toArray, List.set_cons_zero, List.set_cons_succ]
            refine take_ph 1 (.pointer (some ⟨Bc, 0, none⟩)) [] rfl (by kernel_rfl) (fun _ _ _ h => h) (Or.inl ⟨by rfl, ?_⟩) hSt (fun hSn => ?_)
            · intro V _; go_simp
            clear hSt; rename Ph _ _ _ _ _ _ _ => hSt
            simp only [Act.put, List.setIfInBounds_toArray, List.set_cons_zero, List.set_cons_succ]
            refine take_ph 2 (.string cn) [] rfl (by kernel_rfl) (fun _ _ _ h => h) (Or.inl ⟨by rfl, ?_⟩) hSt (fun hSn => ?_)
            · rintro V ⟨hh, _, _⟩; have e0 := HA0.out V hh; clear hh; go_simp
            clear hSt; rename Ph _ _ _ _ _ _ _ => hSt
            simp only [Act.put, List.setIfInBounds_toArray, List.set_cons_zero, List.set_cons_succ]
            refine take_ph 3 (.string (T1 ++ cn)) [] rfl (by kernel_rfl) (fun _ _ _ h => h) (Or.inl ⟨by rfl, ?_⟩) hSt (fun hSn => ?_)
            · intro V _; go_simp
            clear hSt; rename Ph _ _ _ _ _ _ _ => hSt
            simp only [Act.put, List.setIfInBounds_toArray, List.set_cons_zero, List.set_cons_succ]
            refine take_ph 4 (.string (T1 ++ cn ++ ⟨#[32]⟩)) [] rfl (by kernel_rfl) (fun _ _ _ h => h) (Or.inl ⟨by rfl, ?_⟩) hSt (fun hSn => ?_)
            · intro V _; go_simp
            clear hSt; rename Ph _ _ _ _ _ _ _ => hSt
            simp only [Act.put, List.setIfInBounds_toArray, List.set_cons_zero, List.set_cons_succ]
            refine take_ph 6 (.pointer (some ⟨Bc, 1, none⟩)) [] rfl (by kernel_rfl) (fun _ _ _ h => h) (Or.inl ⟨by rfl, ?_⟩) hSt (fun hSn => ?_)
            · intro V _; go_simp
            clear hSt; rename Ph _ _ _ _ _ _ _ => hSt
            simp only [Act.put, List.setIfInBounds_toArray, List.set_cons_zero, List.set_cons_succ]
            refine take_ph 7 (.int .i64 2) [] rfl (by kernel_rfl) (fun _ _ _ h => h) (Or.inl ⟨by rfl, ?_⟩) hSt (fun hSn => ?_)
            · rintro V ⟨hh, _, _⟩; have e0 := HA1.out V hh; clear hh; go_simp
            clear hSt; rename Ph _ _ _ _ _ _ _ => hSt
            simp only [Act.put, List.setIfInBounds_toArray, List.set_cons_zero, List.set_cons_succ]
            refine ready_ph 5 rfl (by kernel_rfl) rfl (.inl (run_build4 _ _ _ rfl)) (⟨HS1.out, fun _ => trivial, fun _ => trivial⟩) (fun hSn => ?_)
            clear hSt; rename Ph _ _ _ _ _ _ _ => hSt
            simp only [Act.put, List.setIfInBounds_toArray, List.set_cons_zero, List.set_cons_succ]
            refine take_ph 8 (.pointer (some ⟨Wc.drew.heap.size, 2, none⟩)) [] rfl (by kernel_rfl) (fun _ _ _ h => h) (Or.inl ⟨by rfl, ?_⟩) hSt (fun hSn => ?_)
            · intro V _; go_simp
            clear hSt; rename Ph _ _ _ _ _ _ _ => hSt
            simp only [Act.put, List.setIfInBounds_toArray, List.set_cons_zero, List.set_cons_succ]
            refine ready_ph 9 rfl (by kernel_rfl) rfl (.inl (run_load9 _ ⟨Wc.drew.heap.size, 2, none⟩ ⟨#[84, 69, 88, 84]⟩ (by simp [arr4, go_sem]) _ _ _ rfl rfl)) (⟨HS1.out, fun _ => trivial, fun _ => trivial⟩) (fun hSn => ?_)
            clear hSt; rename Ph _ _ _ _ _ _ _ => hSt
            simp only [Act.put, List.setIfInBounds_toArray, List.set_cons_zero, List.set_cons_succ]
            refine take_ph 10 (.string (T1 ++ cn ++ ⟨#[32]⟩ ++ ⟨#[84, 69, 88, 84]⟩)) [] rfl (by kernel_rfl) (fun _ _ _ h => h) (Or.inl ⟨by rfl, ?_⟩) hSt (fun hSn => ?_)
            · intro V _; go_simp
            clear hSt; rename Ph _ _ _ _ _ _ _ => hSt
            simp only [Act.put, List.setIfInBounds_toArray, List.set_cons_zero, List.set_cons_succ]
            refine take_ph 11 (.string (T1 ++ cn ++ ⟨#[32]⟩ ++ ⟨#[84, 69, 88, 84]⟩)) [] rfl (by kernel_rfl) (fun _ _ _ h => h) (Or.inl ⟨by rfl, ?_⟩) hSt (fun hSn => ?_)
            · intro V _; go_simp
            clear hSt; rename Ph _ _ _ _ _ _ _ => hSt
            simp only [Act.put, List.setIfInBounds_toArray, List.set_cons_zero, List.set_cons_succ]
            refine done_ph (by kernel_rfl) ?_ _
            clear hSt
            refine NoPanic.normal ?_
            have HB2 := Lib.hid (below_step HBa.out (below_step (below_drew Wc) (below_alloc1 Wc.drew (.cells arr4 9))))
            have HC2 := Lib.hid (HCo.out.on (below_step (below_drew Wc) (below_alloc1 Wc.drew (.cells arr4 9))))
            obtain ⟨r0, r1, r2, r3⟩ := HC2.out
            simp only at r2 r3
            generalize Wc.drew.alloc (.cells arr4 9) = W4 at *
            generalize hT4 : (T1 ++ cn ++ ⟨#[32]⟩ ++ ⟨#[84, 69, 88, 84]⟩ : ByteArray) = T4 at *
            have HT4 := Lib.hid hT4
            clear hT4 r0 r1 HS0 HS1 HWc HCo HBa HT2 hx1 hx2 hz1 hz2 hz3 hz4
            cases ky
            · cases nl
              · have HF : Hid (TN = T4) := by show _ = _; rw [HStep.out, ← HT4.out]; simp only [markS, ba_nil, ba_cat3, Bool.false_eq_true, if_false]
                clear HStep HT4
                go_wp2_with fail
                go_roundw
                case rel => exact ⟨i + 1, by omega, by go_num, by rw [HTN.out, HF.out], HB2⟩
                case measure => simp [intOf]; omega
              · have HF : Hid (TN = T4 ++ ⟨#[32, 78, 85, 76, 76]⟩) := by show _ = _; rw [HStep.out, ← HT4.out]; simp only [markS, ba_cat, Bool.false_eq_true, if_false, if_true]
                clear HStep HT4
                go_wp2_with fail
                go_roundw
                case rel => exact ⟨i + 1, by omega, by go_num, by rw [HTN.out, HF.out], HB2⟩
                case measure => simp [intOf]; omega
            · cases nl
              · have HF : Hid (TN = T4 ++ ⟨#[32, 75, 69, 89]⟩) := by show _ = _; rw [HStep.out, ← HT4.out]; simp only [markS, ba_cat, if_true]
                clear HStep HT4
                go_wp2_with fail
                go_roundw
                case rel => exact ⟨i + 1, by omega, by go_num, by rw [HTN.out, HF.out], HB2⟩
                case measure => simp [intOf]; omega
              · cases hkn
          · have hp2 : ¬ ((0 : Int) < (i : Int)) := by omega
            have HT2 : Hid (T0 = T1) := by show _ = _; rw [HT1.out, if_neg hp]
            clear HT1
            go_wp2_with fail
            rw [HWc.out, HT2.out]
            refine wp_region_noPanic ?_
            refine region_ph (A := (fun V => V.cell? ⟨Bc, 0, none⟩ = some (.string cn) ∧ V.cell? ⟨Bc, 1, none⟩ = some (.int .i64 2))) (e1 := 9999) (B := fun _ => True) (e2 := 9999) (C := fun _ => True) (by kernel_rfl) ⟨(HS0.out), fun _ => trivial, fun _ => trivial⟩ (fun hSt => ?_)
            refine take_ph 0 (.string T1) [] rfl (by kernel_rfl) (fun _ _ _ h => h) (Or.inl ⟨by rfl, ?_⟩) hSt (fun hSn => ?_)
            · intro V _; go_simp
            clear hSt; rename Ph _ _ _ _ _ _ _ => hSt
            simp only [Act.put, List.setIfInBounds_toArray, List.set_cons_zero, List.set_cons_succ]
            refine take_ph 1 (.pointer (some ⟨Bc, 0, none⟩)) [] rfl (by kernel_rfl) (fun _ _ _ h => h) (Or.inl ⟨by rfl, ?_⟩) hSt (fun hSn => ?_)
            · intro V _; go_simp
            clear hSt; rename Ph _ _ _ _ _ _ _ => hSt
            simp only [Act.put, List.setIfInBounds_toArray, List.set_cons_zero, List.set_cons_succ]
            refine take_ph 2 (.string cn) [] rfl (by kernel_rfl) (fun _ _ _ h => h) (Or.inl ⟨by rfl, ?_⟩) hSt (fun hSn => ?_)
            · rintro V ⟨hh, _, _⟩; have e0 := HA0.out V hh; clear hh; go_simp
            clear hSt; rename Ph _ _ _ _ _ _ _ => hSt
            simp only [Act.put, List.setIfInBounds_toArray, List.set_cons_zero, List.set_cons_succ]
            refine take_ph 3 (.string (T1 ++ cn)) [] rfl (by kernel_rfl) (fun _ _ _ h => h) (Or.inl ⟨by rfl, ?_⟩) hSt (fun hSn => ?_)
            · intro V _; go_simp
            clear hSt; rename Ph _ _ _ _ _ _ _ => hSt
            simp only [Act.put, List.setIfInBounds_toArray, List.set_cons_zero, List.set_cons_succ]
            refine take_ph 4 (.string (T1 ++ cn ++ ⟨#[32]⟩)) [] rfl (by kernel_rfl) (fun _ _ _ h => h) (Or.inl ⟨by rfl, ?_⟩) hSt (fun hSn => ?_)
            · intro V _; go_simp
            clear hSt; rename Ph _ _ _ _ _ _ _ => hSt
            simp only [Act.put, List.setIfInBounds_toArray, List.set_cons_zero, List.set_cons_succ]
            refine take_ph 6 (.pointer (some ⟨Bc, 1, none⟩)) [] rfl (by kernel_rfl) (fun _ _ _ h => h) (Or.inl ⟨by rfl, ?_⟩) hSt (fun hSn => ?_)
            · intro V _; go_simp
            clear hSt; rename Ph _ _ _ _ _ _ _ => hSt
            simp only [Act.put, List.setIfInBounds_toArray, List.set_cons_zero, List.set_cons_succ]
            refine take_ph 7 (.int .i64 2) [] rfl (by kernel_rfl) (fun _ _ _ h => h) (Or.inl ⟨by rfl, ?_⟩) hSt (fun hSn => ?_)
            · rintro V ⟨hh, _, _⟩; have e0 := HA1.out V hh; clear hh; go_simp
            clear hSt; rename Ph _ _ _ _ _ _ _ => hSt
            simp only [Act.put, List.setIfInBounds_toArray, List.set_cons_zero, List.set_cons_succ]
            refine ready_ph 5 rfl (by kernel_rfl) rfl (.inl (run_build4 _ _ _ rfl)) (⟨HS1.out, fun _ => trivial, fun _ => trivial⟩) (fun hSn => ?_)
            clear hSt; rename Ph _ _ _ _ _ _ _ => hSt
            simp only [Act.put, List.setIfInBounds_toArray, List.set_cons_zero, List.set_cons_succ]
            refine take_ph 8 (.pointer (some ⟨Wc.drew.heap.size, 2, none⟩)) [] rfl (by kernel_rfl) (fun _ _ _ h => h) (Or.inl ⟨by rfl, ?_⟩) hSt (fun hSn => ?_)
            · intro V _; go_simp
            clear hSt; rename Ph _ _ _ _ _ _ _ => hSt
            simp only [Act.put, List.setIfInBounds_toArray, List.set_cons_zero, List.set_cons_succ]
            refine ready_ph 9 rfl (by kernel_rfl) rfl (.inl (run_load9 _ ⟨Wc.drew.heap.size, 2, none⟩ ⟨#[84, 69, 88, 84]⟩ (by simp [arr4, go_sem]) _ _ _ rfl rfl)) (⟨HS1.out, fun _ => trivial, fun _ => trivial⟩) (fun hSn => ?_)
            clear hSt; rename Ph _ _ _ _ _ _ _ => hSt
            simp only [Act.put, List.setIfInBounds_toArray, List.set_cons_zero, List.set_cons_succ]
            refine take_ph 10 (.string (T1 ++ cn ++ ⟨#[32]⟩ ++ ⟨#[84, 69, 88, 84]⟩)) [] rfl (by kernel_rfl) (fun _ _ _ h => h) (Or.inl ⟨by rfl, ?_⟩) hSt (fun hSn => ?_)
            · intro V _; go_simp
            clear hSt; rename Ph _ _ _ _ _ _ _ => hSt
            simp only [Act.put, List.setIfInBounds_toArray, List.set_cons_zero, List.set_cons_succ]
            refine take_ph 11 (.string (T1 ++ cn ++ ⟨#[32]⟩ ++ ⟨#[84, 69, 88, 84]⟩)) [] rfl (by kernel_rfl) (fun _ _ _ h => h) (Or.inl ⟨by rfl, ?_⟩) hSt (fun hSn => ?_)
            · intro V _; go_simp
            clear hSt; rename Ph _ _ _ _ _ _ _ => hSt
            simp only [Act.put, List.setIfInBounds_toArray, List.set_cons_zero, List.set_cons_succ]
            refine done_ph (by kernel_rfl) ?_ _
            clear hSt
            refine NoPanic.normal ?_
            have HB2 := Lib.hid (below_step HBa.out (below_step (below_drew Wc) (below_alloc1 Wc.drew (.cells arr4 9))))
            have HC2 := Lib.hid (HCo.out.on (below_step (below_drew Wc) (below_alloc1 Wc.drew (.cells arr4 9))))
            obtain ⟨r0, r1, r2, r3⟩ := HC2.out
            simp only at r2 r3
            generalize Wc.drew.alloc (.cells arr4 9) = W4 at *
            generalize hT4 : (T1 ++ cn ++ ⟨#[32]⟩ ++ ⟨#[84, 69, 88, 84]⟩ : ByteArray) = T4 at *
            have HT4 := Lib.hid hT4
            clear hT4 r0 r1 HS0 HS1 HWc HCo HBa HT2 hx1 hx2 hz1 hz2 hz3 hz4
            cases ky
            · cases nl
              · have HF : Hid (TN = T4) := by show _ = _; rw [HStep.out, ← HT4.out]; simp only [markS, ba_nil, ba_cat3, Bool.false_eq_true, if_false]
                clear HStep HT4
                go_wp2_with fail
                go_roundw
                case rel => exact ⟨i + 1, by omega, by go_num, by rw [HTN.out, HF.out], HB2⟩
                case measure => simp [intOf]; omega
              · have HF : Hid (TN = T4 ++ ⟨#[32, 78, 85, 76, 76]⟩) := by show _ = _; rw [HStep.out, ← HT4.out]; simp only [markS, ba_cat, Bool.false_eq_true, if_false, if_true]
                clear HStep HT4
                go_wp2_with fail
                go_roundw
                case rel => exact ⟨i + 1, by omega, by go_num, by rw [HTN.out, HF.out], HB2⟩
                case measure => simp [intOf]; omega
            · cases nl
              · have HF : Hid (TN = T4 ++ ⟨#[32, 75, 69, 89]⟩) := by show _ = _; rw [HStep.out, ← HT4.out]; simp only [markS, ba_cat, if_true]
                clear HStep HT4
                go_wp2_with fail
                go_roundw
                case rel => exact ⟨i + 1, by omega, by go_num, by rw [HTN.out, HF.out], HB2⟩
                case measure => simp [intOf]; omega
              · cases hkn
        · have hK : kindS 3 = ⟨#[66, 79, 79, 76]⟩ := rfl
          rw [hK] at HStep hx3
          clear hK hks
          by_cases hp : 0 < i
          · have hp2 : (0 : Int) < (i : Int) := by omega
            have HT2 : Hid (T0 ++ ⟨#[44, 32]⟩ = T1) := by show _ = _; rw [HT1.out, if_pos hp]
            clear HT1
            go_wp2_with fail
            rw [HWc.out, HT2.out]
            refine wp_region_noPanic ?_
            refine region_ph (A := (fun V => V.cell? ⟨Bc, 0, none⟩ = some (.string cn) ∧ V.cell? ⟨Bc, 1, none⟩ = some (.int .i64 3))) (e1 := 9999) (B := fun _ => True) (e2 := 9999) (C := fun _ => True) (by kernel_rfl) ⟨(HS0.out), fun _ => trivial, fun _ => trivial⟩ (fun hSt => ?_)
            refine take_ph 0 (.string T1) [] rfl (by kernel_rfl) (fun _ _ _ h => h) (Or.inl ⟨by rfl, ?_⟩) hSt (fun hSn => ?_)
            · intro V _; go_simp
            clear hSt; rename Ph _ _ _ _ _ _ _ => hSt
            simp only [Act.put, List.setIfInBounds_toArray, List.set_cons_zero, List.set_cons_succ]
            refine take_ph 1 (.pointer (some ⟨Bc, 0, none⟩)) [] rfl (by kernel_rfl) (fun _ _ _ h => h) (Or.inl ⟨by rfl, ?_⟩) hSt (fun hSn => ?_)
            · intro V _; go_simp
            clear hSt; rename Ph _ _ _ _ _ _ _ => hSt
            simp only [Act.put, List.setIfInBounds_toArray, List.set_cons_zero, List.set_cons_succ]
            refine take_ph 2 (.string cn) [] rfl (by kernel_rfl) (fun _ _ _ h => h) (Or.inl ⟨by rfl, ?_⟩) hSt (fun hSn => ?_)
            · rintro V ⟨hh, _, _⟩; have e0 := HA0.out V hh; clear hh; go_simp
            clear hSt; rename Ph _ _ _ _ _ _ _ => hSt
            simp only [Act.put, List.setIfInBounds_toArray, List.set_cons_zero, List.set_cons_succ]
            refine take_ph 3 (.string (T1 ++ cn)) [] rfl (by kernel_rfl) (fun _ _ _ h => h) (Or.inl ⟨by rfl, ?_⟩) hSt (fun hSn => ?_)
            · intro V _; go_simp
            clear hSt; rename Ph _ _ _ _ _ _ _ => hSt
            simp only [Act.put, List.setIfInBounds_toArray, List.set_cons_zero, List.set_cons_succ]
            refine take_ph 4 (.string (T1 ++ cn ++ ⟨#[32]⟩)) [] rfl (by kernel_rfl) (fun _ _ _ h => h) (Or.inl ⟨by rfl, ?_⟩) hSt (fun hSn => ?_)
            · intro V _; go_simp
            clear hSt; rename Ph _ _ _ _ _ _ _ => hSt
            simp only [Act.put, List.setIfInBounds_toArray, List.set_cons_zero, List.set_cons_succ]
            refine take_ph 6 (.pointer (some ⟨Bc, 1, none⟩)) [] rfl (by kernel_rfl) (fun _ _ _ h => h) (Or.inl ⟨by rfl, ?_⟩) hSt (fun hSn => ?_)
            · intro V _; go_simp
            clear hSt; rename Ph _ _ _ _ _ _ _ => hSt
            simp only [Act.put, List.setIfInBounds_toArray, List.set_cons_zero, List.set_cons_succ]
            refine take_ph 7 (.int .i64 3) [] rfl (by kernel_rfl) (fun _ _ _ h => h) (Or.inl ⟨by rfl, ?_⟩) hSt (fun hSn => ?_)
            · rintro V ⟨hh, _, _⟩; have e0 := HA1.out V hh; clear hh; go_simp
            clear hSt; rename Ph _ _ _ _ _ _ _ => hSt
            simp only [Act.put, List.setIfInBounds_toArray, List.set_cons_zero, List.set_cons_succ]
            refine ready_ph 5 rfl (by kernel_rfl) rfl (.inl (run_build4 _ _ _ rfl)) (⟨HS1.out, fun _ => trivial, fun _ => trivial⟩) (fun hSn => ?_)
            clear hSt; rename Ph _ _ _ _ _ _ _ => hSt
            simp only [Act.put, List.setIfInBounds_toArray, List.set_cons_zero, List.set_cons_succ]
            refine take_ph 8 (.pointer (some ⟨Wc.drew.heap.size, 3, none⟩)) [] rfl (by kernel_rfl) (fun _ _ _ h => h) (Or.inl ⟨by rfl, ?_⟩) hSt (fun hSn => ?_)
            · intro V _; go_simp
            clear hSt; rename Ph _ _ _ _ _ _ _ => hSt
            simp only [Act.put, List.setIfInBounds_toArray, List.set_cons_zero, List.set_cons_succ]
            refine ready_ph 9 rfl (by kernel_rfl) rfl (.inl (run_load9 _ ⟨Wc.drew.heap.size, 3, none⟩ ⟨#[66, 79, 79, 76]⟩ (by simp [arr4, go_sem]) _ _ _ rfl rfl)) (⟨HS1.out, fun _ => trivial, fun _ => trivial⟩) (fun hSn => ?_)
            clear hSt; rename Ph _ _ _ _ _ _ _ => hSt
            simp only [Act.put, List.setIfInBounds_toArray, List.set_cons_zero, List.set_cons_succ]
            refine take_ph 10 (.string (T1 ++ cn ++ ⟨#[32]⟩ ++ ⟨#[66, 79, 79, 76]⟩)) [] rfl (by kernel_rfl) (fun _ _ _ h => h) (Or.inl ⟨by rfl, ?_⟩) hSt (fun hSn => ?_)
            · intro V _; go_simp
            clear hSt; rename Ph _ _ _ _ _ _ _ => hSt
            simp only [Act.put, List.setIfInBounds_toArray, List.set_cons_zero, List.set_cons_succ]
            refine take_ph 11 (.string (T1 ++ cn ++ ⟨#[32]⟩ ++ ⟨#[66, 79, 79, 76]⟩)) [] rfl (by kernel_rfl) (fun _ _ _ h => h) (Or.inl ⟨by rfl, ?_⟩) hSt (fun hSn => ?_)
            · intro V _; go_simp
            clear hSt; rename Ph _ _ _ _ _ _ _ => hSt
            simp only [Act.put, List.setIfInBounds_toArray, List.set_cons_zero, List.set_cons_succ]
            refine done_ph (by kernel_rfl) ?_ _
            clear hSt
            refine NoPanic.normal ?_
            have HB2 := Lib.hid (below_step HBa.out (below_step (below_drew Wc) (below_alloc1 Wc.drew (.cells arr4 9))))
            have HC2 := Lib.hid (HCo.out.on (below_step (below_drew Wc) (below_alloc1 Wc.drew (.cells arr4 9))))
            obtain ⟨r0, r1, r2, r3⟩ := HC2.out
            simp only at r2 r3
            generalize Wc.drew.alloc (.cells arr4 9) = W4 at *
            generalize hT4 : (T1 ++ cn ++ ⟨#[32]⟩ ++ ⟨#[66, 79, 79, 76]⟩ : ByteArray) = T4 at *
            have HT4 := Lib.hid hT4
            clear hT4 r0 r1 HS0 HS1 HWc HCo HBa HT2 hx1 hx2 hz1 hz2 hz3 hz4
            cases ky
            · cases nl
              · have HF : Hid (TN = T4) := by show _ = _; rw [HStep.out, ← HT4.out]; simp only [markS, ba_nil, ba_cat3, Bool.false_eq_true, if_false]
                clear HStep HT4
                go_wp2_with fail
                go_roundw
                case rel => exact ⟨i + 1, by omega, by go_num, by rw [HTN.out, HF.out], HB2⟩
                case measure => simp [intOf]; omega
              · have HF : Hid (TN = T4 ++ ⟨#[32, 78, 85, 76, 76]⟩) := by show _ = _; rw [HStep.out, ← HT4.out]; simp only [markS, ba_cat, Bool.false_eq_true, if_false, if_true]
                clear HStep HT4
                go_wp2_with fail
                go_roundw
                case rel => exact ⟨i + 1, by omega, by go_num, by rw [HTN.out, HF.out], HB2⟩
                case measure => simp [intOf]; omega
            · cases nl
              · have HF : Hid (TN = T4 ++ ⟨#[32, 75, 69, 89]⟩) := by show _ = _; rw [HStep.out, ← HT4.out]; simp only [markS, ba_cat, if_true]
                clear HStep HT4
                go_wp2_with fail
                go_roundw
                case rel => exact ⟨i + 1, by omega, by go_num, by rw [HTN.out, HF.out], HB2⟩
                case measure => simp [intOf]; omega
              · cases hkn
          · have hp2 : ¬ ((0 : Int) < (i : Int)) := by omega
            have HT2 : Hid (T0 = T1) := by show _ = _; rw [HT1.out, if_neg hp]
            clear HT1
            go_wp2_with fail
            rw [HWc.out, HT2.out]
            refine wp_region_noPanic ?_
            refine region_ph (A := (fun V => V.cell? ⟨Bc, 0, none⟩ = some (.string cn) ∧ V.cell? ⟨Bc, 1, none⟩ = some (.int .i64 3))) (e1 := 9999) (B := fun _ => True) (e2 := 9999) (C := fun _ => True) (by kernel_rfl) ⟨(HS0.out), fun _ => trivial, fun _ => trivial⟩ (fun hSt => ?_)
            refine take_ph 0 (.string T1) [] rfl (by kernel_rfl) (fun _ _ _ h => h) (Or.inl ⟨by rfl, ?_⟩) hSt (fun hSn => ?_)
            · intro V _; go_simp
            clear hSt; rename Ph _ _ _ _ _ _ _ => hSt
            simp only [Act.put, List.setIfInBounds_toArray, List.set_cons_zero, List.set_cons_succ]
            refine take_ph 1 (.pointer (some ⟨Bc, 0, none⟩)) [] rfl (by kernel_rfl) (fun _ _ _ h => h) (Or.inl ⟨by rfl, ?_⟩) hSt (fun hSn => ?_)
            · intro V _; go_simp
            clear hSt; rename Ph _ _ _ _ _ _ _ => hSt
            simp only [Act.put, List.setIfInBounds_toArray, List.set_cons_zero, List.set_cons_succ]
            refine take_ph 2 (.string cn) [] rfl (by kernel_rfl) (fun _ _ _ h => h) (Or.inl ⟨by rfl, ?_⟩) hSt (fun hSn => ?_)
            · rintro V ⟨hh, _, _⟩; have e0 := HA0.out V hh; clear hh; go_simp
            clear hSt; rename Ph _ _ _ _ _ _ _ => hSt
            simp only [Act.put, List.setIfInBounds_toArray, List.set_cons_zero, List.set_cons_succ]
            refine take_ph 3 (.string (T1 ++ cn)) [] rfl (by kernel_rfl) (fun _ _ _ h => h) (Or.inl ⟨by rfl, ?_⟩) hSt (fun hSn => ?_)
            · intro V _; go_simp
            clear hSt; rename Ph _ _ _ _ _ _ _ => hSt
            simp only [Act.put, List.setIfInBounds_toArray, List.set_cons_zero, List.set_cons_succ]
            refine take_ph 4 (.string (T1 ++ cn ++ ⟨#[32]⟩)) [] rfl (by kernel_rfl) (fun _ _ _ h => h) (Or.inl ⟨by rfl, ?_⟩) hSt (fun hSn => ?_)
            · intro V _; go_simp
            clear hSt; rename Ph _ _ _ _ _ _ _ => hSt
            simp only [Act.put, List.setIfInBounds_toArray, List.set_cons_zero, List.set_cons_succ]
            refine take_ph 6 (.pointer (some ⟨Bc, 1, none⟩)) [] rfl (by kernel_rfl) (fun _ _ _ h => h) (Or.inl ⟨by rfl, ?_⟩) hSt (fun hSn => ?_)
            · intro V _; go_simp
            clear hSt; rename Ph _ _ _ _ _ _ _ => hSt
            simp only [Act.put, List.setIfInBounds_toArray, List.set_cons_zero, List.set_cons_succ]
            refine take_ph 7 (.int .i64 3) [] rfl (by kernel_rfl) (fun _ _ _ h => h) (Or.inl ⟨by rfl, ?_⟩) hSt (fun hSn => ?_)
            · rintro V ⟨hh, _, _⟩; have e0 := HA1.out V hh; clear hh; go_simp
            clear hSt; rename Ph _ _ _ _ _ _ _ => hSt
            simp only [Act.put, List.setIfInBounds_toArray, List.set_cons_zero, List.set_cons_succ]
            refine ready_ph 5 rfl (by kernel_rfl) rfl (.inl (run_build4 _ _ _ rfl)) (⟨HS1.out, fun _ => trivial, fun _ => trivial⟩) (fun hSn => ?_)
            clear hSt; rename Ph _ _ _ _ _ _ _ => hSt
            simp only [Act.put, List.setIfInBounds_toArray, List.set_cons_zero, List.set_cons_succ]
            refine take_ph 8 (.pointer (some ⟨Wc.drew.heap.size, 3, none⟩)) [] rfl (by kernel_rfl) (fun _ _ _ h => h) (Or.inl ⟨by rfl, ?_⟩) hSt (fun hSn => ?_)
            · intro V _; go_simp
            clear hSt; rename Ph _ _ _ _ _ _ _ => hSt
            simp only [Act.put, List.setIfInBounds_toArray, List.set_cons_zero, List.set_cons_succ]
            refine ready_ph 9 rfl (by kernel_rfl) rfl (.inl (run_load9 _ ⟨Wc.drew.heap.size, 3, none⟩ ⟨#[66, 79, 79, 76]⟩ (by simp [arr4, go_sem]) _ _ _ rfl rfl)) (⟨HS1.out, fun _ => trivial, fun _ => trivial⟩) (fun hSn => ?_)
            clear hSt; rename Ph _ _ _ _ _ _ _ => hSt
            simp only [Act.put, List.setIfInBounds_toArray, List.set_cons_zero, List.set_cons_succ]
            refine take_ph 10 (.string (T1 ++ cn ++ ⟨#[32]⟩ ++ ⟨#[66, 79, 79, 76]⟩)) [] rfl (by kernel_rfl) (fun _ _ _ h => h) (Or.inl ⟨by rfl, ?_⟩) hSt (fun hSn => ?_)
            · intro V _; go_simp
            clear hSt; rename Ph _ _ _ _ _ _ _ => hSt
            simp only [Act.put, List.setIfInBounds_toArray, List.set_cons_zero, List.set_cons_succ]
            refine take_ph 11 (.string (T1 ++ cn ++ ⟨#[32]⟩ ++ ⟨#[66, 79, 79, 76]⟩)) [] rfl (by kernel_rfl) (fun _ _ _ h => h) (Or.inl ⟨by rfl, ?_⟩) hSt (fun hSn => ?_)
            · intro V _; go_simp
            clear hSt; rename Ph _ _ _ _ _ _ _ => hSt
            simp only [Act.put, List.setIfInBounds_toArray, List.set_cons_zero, List.set_cons_succ]
            refine done_ph (by kernel_rfl) ?_ _
            clear hSt
            refine NoPanic.normal ?_
            have HB2 := Lib.hid (below_step HBa.out (below_step (below_drew Wc) (below_alloc1 Wc.drew (.cells arr4 9))))
            have HC2 := Lib.hid (HCo.out.on (below_step (below_drew Wc) (below_alloc1 Wc.drew (.cells arr4 9))))
            obtain ⟨r0, r1, r2, r3⟩ := HC2.out
            simp only at r2 r3
            generalize Wc.drew.alloc (.cells arr4 9) = W4 at *
            generalize hT4 : (T1 ++ cn ++ ⟨#[32]⟩ ++ ⟨#[66, 79, 79, 76]⟩ : ByteArray) = T4 at *
            have HT4 := Lib.hid hT4
            clear hT4 r0 r1 HS0 HS1 HWc HCo HBa HT2 hx1 hx2 hz1 hz2 hz3 hz4
            cases ky
            · cases nl
              · have HF : Hid (TN = T4) := by show _ = _; rw [HStep.out, ← HT4.out]; simp only [markS, ba_nil, ba_cat3, Bool.false_eq_true, if_false]
                clear HStep HT4
                go_wp2_with fail
                go_roundw
                case rel => exact ⟨i + 1, by omega, by go_num, by rw [HTN.out, HF.out], HB2⟩
                case measure => simp [intOf]; omega
              · have HF : Hid (TN = T4 ++ ⟨#[32, 78, 85, 76, 76]⟩) := by show _ = _; rw [HStep.out, ← HT4.out]; simp only [markS, ba_cat, Bool.false_eq_true, if_false, if_true]
                clear HStep HT4
                go_wp2_with fail
                go_roundw
                case rel => exact ⟨i + 1, by omega, by go_num, by rw [HTN.out, HF.out], HB2⟩
                case measure => simp [intOf]; omega
            · cases nl
              · have HF : Hid (TN = T4 ++ ⟨#[32, 75, 69, 89]⟩) := by show _ = _; rw [HStep.out, ← HT4.out]; simp only [markS, ba_cat, if_true]
                clear HStep HT4
                go_wp2_with fail
                go_roundw
                case rel => exact ⟨i + 1, by omega, by go_num, by rw [HTN.out, HF.out], HB2⟩
                case measure => simp [intOf]; omega
              · cases hkn
      · obtain rfl : i = C := by omega
        have hii : ¬ ((i : Int) < (i : Int)) := by omega
        go_wp2_with fail
        refine bodyPost_ret (v := .tuple #[.string S, .int .i64 0]) ?_ rfl ⟨rfl, below_step HB1.out HBw.out⟩
        rw [HS.out]
        simp [results, Tryd.results9, go_sem]
  · obtain ⟨E, hE⟩ : ∃ E, chkT ⟨nm, cs⟩ = E := ⟨_, rfl⟩
    rw [hE] at h0 HCk
    rw [txtS_bad hE h0, hE]
    have h01 : (E == 0) = false := by simpa using h0
    have h02 : (E != 0) = true := by simpa using h0
    clear hE hc hB0 hT hC hV h0 HJ HC hsn hsc
    go_enter Tryd.func9, Tryd.ntmps9
    go_wp2_with fail
    rw [HVe.out]
    obtain ⟨t0, t1⟩ := HT.out
    go_wp2_with fail
    refine HCk.out.mono ?_
    rintro e w1 ⟨rfl, hb1⟩
    go_wp2_with fail
    exact bodyPost_ret (v := .tuple #[.string ⟨#[]⟩, .int .i64 E]) (by simp [results, Tryd.results9, go_sem]) rfl ⟨rfl, below_step HB0.out hb1⟩
end Go.Proofs.YtlgnllnjhpihdaaDoor
