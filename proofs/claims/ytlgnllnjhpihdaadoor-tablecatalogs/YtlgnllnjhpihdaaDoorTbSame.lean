/- Two columns compared; the walk of the document's Same. -/
import Derived.Test.YtlgnllnjhpihdaaDoorTbParse
namespace Go.Proofs.YtlgnllnjhpihdaaDoor
open Go.RowKit Go.Sort

def sameC (t : ByteArray) (k : Int) (y b : Bool) (t' : ByteArray) (k' : Int) (y' b' : Bool) : Bool := t.toList == t'.toList && (k == k' && (y == y' && b == b'))
theorem sameC_iff {t : ByteArray} {k : Int} {y b : Bool} {t' : ByteArray} {k' : Int} {y' b' : Bool} : sameC t k y b t' k' y' b' = true ↔ (⟨t, k, y, b⟩ : Col) = ⟨t', k', y', b'⟩ := by
  unfold sameC
  simp only [Bool.and_eq_true, beq_iff_eq, Col.mk.injEq, toList_lst]
  constructor
  · rintro ⟨a, b, c, d⟩; exact ⟨lst_inj a, b, c, d⟩
  · rintro ⟨a, b, c, d⟩; exact ⟨by rw [a], b, c, d⟩
theorem fieldsC : (Tryd.prog.fieldsOf 55).toList.map (fun f => (f.name, f.type, f.offset)) = [("Name", 9, 0), ("Kind", 3, 1), ("Key", 4, 2), ("Null", 4, 3)] := by kernel_rfl
theorem guardC : Tryd.prog.eqGuardType Tryd.prog.depth 55 = false := by kernel_rfl
theorem heldC : Tryd.prog.stoodInHeld 55 = false := by kernel_rfl
theorem part_at (w : World) (A : Array Value) (i : Nat) (v : Value) (ty : TypeId) (hagg : (isAgg ty).run Tryd.prog w = .ok false w) (h : A[i]? = some v) : (part ty A i).run Tryd.prog w = .ok v w := by
  simp [part, Sem.run_bind, hagg, h]
theorem agg3 (w : World) : (isAgg 3).run Tryd.prog w = .ok false w := by
  unfold isAgg; rw [Sem.run_bind, run_underlying Tryd.underlying3 w]; rfl
theorem agg4 (w : World) : (isAgg 4).run Tryd.prog w = .ok false w := by
  unfold isAgg; rw [Sem.run_bind, run_underlying Tryd.underlying4 w]; rfl
theorem agg9 (w : World) : (isAgg 9).run Tryd.prog w = .ok false w := by
  unfold isAgg; rw [Sem.run_bind, run_underlying Tryd.underlying9 w]; rfl
theorem eqC_ (w : World) (t : ByteArray) (k : Int) (y b : Bool) (t' : ByteArray) (k' : Int) (y' b' : Bool) :
    (Op.equalIn 10000 55 (.agg #[.string t, .int .i64 k, .bool y, .bool b]) (.agg #[.string t', .int .i64 k', .bool y', .bool b'])).run Tryd.prog w = .ok (sameC t k y b t' k' y' b') w := by
  rw [run_equalIn_struct w 9999 55 _ _ (by kernel_rfl) heldC]
  have hf := fieldsC
  generalize (Tryd.prog.fieldsOf 55).toList = fs at *
  obtain ⟨f0, f1, f2, f3, rfl⟩ : ∃ f0 f1 f2 f3, fs = [f0, f1, f2, f3] := by
    have hl := congrArg List.length hf
    rcases fs with _ | ⟨f0, _ | ⟨f1, _ | ⟨f2, _ | ⟨f3, _ | ⟨f4, fs⟩⟩⟩⟩⟩ <;> first | exact ⟨_, _, _, _, rfl⟩ | simp at hl
  simp only [List.map_cons, List.map_nil, List.cons.injEq, Prod.mk.injEq, and_true] at hf
  obtain ⟨⟨a0, a1, a2⟩, ⟨b0, b1, b2⟩, ⟨c0, c1, c2⟩, ⟨d0, d1, d2⟩⟩ := hf
  have p0 := part_at w #[.string t, .int .i64 k, .bool y, .bool b] 0 (.string t) 9 (agg9 w) rfl
  have p1 := part_at w #[.string t, .int .i64 k, .bool y, .bool b] 1 (.int .i64 k) 3 (agg3 w) rfl
  have p2 := part_at w #[.string t, .int .i64 k, .bool y, .bool b] 2 (.bool y) 4 (agg4 w) rfl
  have p3 := part_at w #[.string t, .int .i64 k, .bool y, .bool b] 3 (.bool b) 4 (agg4 w) rfl
  have q0 := part_at w #[.string t', .int .i64 k', .bool y', .bool b'] 0 (.string t') 9 (agg9 w) rfl
  have q1 := part_at w #[.string t', .int .i64 k', .bool y', .bool b'] 1 (.int .i64 k') 3 (agg3 w) rfl
  have q2 := part_at w #[.string t', .int .i64 k', .bool y', .bool b'] 2 (.bool y') 4 (agg4 w) rfl
  have q3 := part_at w #[.string t', .int .i64 k', .bool y', .bool b'] 3 (.bool b') 4 (agg4 w) rfl
  have e0 := run_equalIn_string (P := Tryd.prog) w 9998 9 t t' Tryd.underlying9
  have e1 := run_equalIn_int (P := Tryd.prog) w 9998 3 .i64 .i64 k k' Tryd.underlying3
  have e2 := run_equalIn_bool' (P := Tryd.prog) w 9998 4 y y' Tryd.underlying4
  have e3 := run_equalIn_bool' (P := Tryd.prog) w 9998 4 b b' Tryd.underlying4
  generalize #[Value.string t, Value.int .i64 k, Value.bool y, Value.bool b] = A at *
  generalize #[Value.string t', Value.int .i64 k', Value.bool y', Value.bool b'] = B at *
  unfold sameC
  simp only [Op.eqFields, a0, a1, a2, b0, b1, b2, c0, c1, c2, d0, d1, d2, Sem.run_bind, Sem.run_ite, p0, p1, p2, p3, q0, q1, q2, q3, e0, e1, e2, e3, Result.andThen_ok]
  cases (t.toList == t'.toList) <;> cases (k == k') <;> cases (y == y') <;> cases (b == b') <;> simp
theorem below_drewN2 {W w : World} (h : Below W.heap.size W w) (n : Nat) : Below W.heap.size W (w.drewN n) := below_step h ⟨rfl, rfl, rfl, Nat.le_refl _, fun _ _ => rfl⟩
set_option maxRecDepth 100000 in
set_option maxHeartbeats 1000000 in
theorem same_ (nm nm' : ByteArray) (a a' : Option Addr) (c c' : Nat) (xs ys : List Col) (w : World) (h : ColsIn w a xs) (h' : ColsIn w a' ys) (hlen : xs.length ≤ 140737488355328) (hlen' : ys.length ≤ 140737488355328) :
    Calls Tryd.prog 19 #[.agg #[.string nm, .slice a xs.length c], .agg #[.string nm', .slice a' ys.length c']] w fun e w' => ∃ r : Bool, e = .returned (.bool r) ∧ (r = true ↔ (nm = nm' ∧ xs = ys)) ∧ Below w.heap.size w w' := by
  obtain ⟨L, hL⟩ : ∃ L, xs.length = L := ⟨_, rfl⟩
  obtain ⟨M, hM⟩ : ∃ M, ys.length = M := ⟨_, rfl⟩
  have HL := Lib.hid hL
  have HM := Lib.hid hM
  rw [hL] at hlen
  rw [hM] at hlen'
  rw [hL, hM]
  have hGD := guardC
  obtain ⟨W1, hW1⟩ : ∃ W1, W1 = (w.alloc (.cells #[.string nm, .slice a L c] 24)).alloc (.cells #[.string nm', .slice a' M c'] 24) := ⟨_, rfl⟩
  have hB1 : Below w.heap.size w W1 := by rw [hW1]; exact below_step (below_alloc1 _ _) (below_alloc1 _ _)
  have HT : Hid (InT W1 w.heap.size nm a L c) := by show InT _ _ _ _ _ _; rw [hW1]; exact (inT_new _ _ _ _ _ _).on (below_alloc1 _ _)
  have HT' : Hid (InT W1 (w.heap.size + 1) nm' a' M c') := by
    show InT _ _ _ _ _ _
    have := inT_new (w.alloc (.cells #[.string nm, .slice a L c] 24)) nm' a' M c' 24
    rw [hW1]; simpa using this
  have HI := Lib.hid (h.on hB1)
  have HI' := Lib.hid (h'.on hB1)
  have HB1 := Lib.hid hB1
  have HW1 := Lib.hid hW1.symm
  obtain ⟨t0, t1⟩ := HT.out
  obtain ⟨u0, u1⟩ := HT'.out
  clear h h' hL hM hB1 hW1
  by_cases hn : lst nm = lst nm'
  · have hn2 : (nm.toList == nm'.toList) = true := by rw [beq_lst, hn]; simp
    have HNm : Hid (nm = nm') := lst_inj hn
    clear hn
    by_cases hlm : L = M
    · subst hlm
      have hne : ((L : Int) != L) = false := by simp
      go_enter Tryd.func19, Tryd.ntmps19
      go_wp2_with fail
      rw [HW1.out]
      go_wp2_with fail
      clear t0 t1 u0 u1 hn2
      go_loopw [5] (fun iv wr => ∃ i : Nat, i ≤ L ∧ iv = .int .i64 i ∧ Hid (xs.take i = ys.take i) ∧ Hid (Below W1.heap.size W1 wr)) (fun iv _ => L - (intOf iv).toNat)
      case atStart => exact ⟨0, Nat.zero_le _, rfl, rfl, Below.refl _ _⟩
      case round =>
        obtain ⟨i, hi, rfl, HE, HBw⟩ := hrel
        obtain ⟨t0, t1⟩ := HT.out.on HBw.out
        obtain ⟨u0, u1⟩ := HT'.out.on HBw.out
        by_cases hlt : i < L
        · have hlt2 : (i : Int) < (L : Int) := by omega
          have hi2 : i < xs.length := by rw [HL.out]; exact hlt
          have hi3 : i < ys.length := by rw [HM.out]; exact hlt
          obtain ⟨b, o, rfl, xn, xk, xy, xl, hvi, p0, p1, p2, p3⟩ := ColsIn.get (HI.out.on HBw.out) i hi2
          obtain ⟨b', o', rfl, yn, yk, yy, yl, hvi', r0, r1, r2, r3⟩ := ColsIn.get (HI'.out.on HBw.out) i hi3
          simp only at p0 p1 p2 p3 r0 r1 r2 r3
          have hd0 : decide (0 ≤ (i : Int)) = true := by simp
          have hd1 : decide ((i : Int) < (L : Int)) = true := by simpa using hlt2
          cases hs : sameC xn xk xy xl yn yk yy yl
          · have hEQ : ∀ W, (Op.equalIn 10000 55 (.agg #[.string xn, .int .i64 xk, .bool xy, .bool xl]) (.agg #[.string yn, .int .i64 yk, .bool yy, .bool yl])).run Tryd.prog W = .ok false W := fun W => by rw [eqC_, hs]
            have HX : Hid (¬ (nm = nm' ∧ xs = ys)) := fun e => by
              have : xs[i]'hi2 = ys[i]'hi3 := by obtain ⟨_, e⟩ := e; subst e; rfl
              rw [hvi, hvi'] at this
              rw [sameC_iff.2 this] at hs; cases hs
            clear hs hvi hvi'
            go_wp2_with fail
            go_quiet (fail)
            have HB2 := Lib.hid (below_step HB1.out (below_drewN2 HBw.out nq))
            go_wp2_with fail
            go_ret
            exact ⟨false, rfl, by simp [HX.out], HB2.out⟩
          · have hEQ : ∀ W, (Op.equalIn 10000 55 (.agg #[.string xn, .int .i64 xk, .bool xy, .bool xl]) (.agg #[.string yn, .int .i64 yk, .bool yy, .bool yl])).run Tryd.prog W = .ok true W := fun W => by rw [eqC_, hs]
            have HE2 : Hid (xs.take (i + 1) = ys.take (i + 1)) := by
              show _ = _
              rw [List.take_add_one, List.take_add_one, HE.out, List.getElem?_eq_getElem hi2, List.getElem?_eq_getElem hi3, hvi, hvi', sameC_iff.1 hs]
            clear hs hvi hvi' HE
            go_wp2_with fail
            go_quiet (fail)
            have HB2 := Lib.hid (below_drewN2 HBw.out nq)
            go_wp2_with fail
            go_roundw
            case rel => exact ⟨i + 1, by omega, by go_num, HE2, HB2⟩
            case measure => simp [intOf]; omega
        · obtain rfl : i = L := by omega
          have HX : Hid (nm = nm' ∧ xs = ys) := by
            have h1 : xs.take i = xs := List.take_of_length_le (by rw [HL.out]; exact Nat.le_refl _)
            have h2 : ys.take i = ys := List.take_of_length_le (by rw [HM.out]; exact Nat.le_refl _)
            exact ⟨HNm.out, by rw [← h1, HE.out, h2]⟩
          clear HE HNm
          go_wp2_with fail
          go_ret
          exact ⟨true, rfl, by simp [HX.out.1, HX.out.2], below_step HB1.out HBw.out⟩
    · have hne : ((L : Int) != M) = true := by simp; omega
      have HX : Hid (¬ (nm = nm' ∧ xs = ys)) := fun e => hlm (by rw [← HL.out, ← HM.out, e.2])
      clear HNm
      go_enter Tryd.func19, Tryd.ntmps19
      go_wp2_with fail
      rw [HW1.out]
      go_wp2_with fail
      go_ret
      exact ⟨false, rfl, by simp [HX.out], HB1.out⟩
  · have hn2 : (nm.toList == nm'.toList) = false := beq_ne hn
    have HX : Hid (¬ (nm = nm' ∧ xs = ys)) := fun e => hn (by rw [e.1])
    clear hn
    go_enter Tryd.func19, Tryd.ntmps19
    go_wp2_with fail
    rw [HW1.out]
    go_wp2_with fail
    go_ret
    exact ⟨false, rfl, by simp [HX.out], HB1.out⟩
end Go.Proofs.YtlgnllnjhpihdaaDoor
