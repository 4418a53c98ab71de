/- appendDigits: each byte of a text as two digits. -/
import Derived.Test.YteeojhmdefhlmaaCuMem
import Derived.Test.YteeojhmdefhlmaaCuPh
import Derived.Laws.BitsAllLaws
namespace Go.Proofs.Yteeojhmdefhlmaa
open Go.RowKit Go.Sort

/-- A digit; a text's digits. -/
def hexd (n : Nat) : Nat := if n < 10 then 48 + n else 87 + n
def hexB (c : UInt8) : List Nat := [hexd (c.toNat / 16), hexd (c.toNat % 16)]
def hexL (l : List UInt8) : List Nat := l.flatMap hexB
theorem hexL_snoc (l : List UInt8) (c : UInt8) : hexL (l ++ [c]) = hexL l ++ hexB c := by simp [hexL]
theorem hexL_len : ∀ l : List UInt8, (hexL l).length = 2 * l.length
  | [] => rfl
  | c :: l => by
    have := hexL_len l
    unfold hexL at this ⊢
    rw [List.flatMap_cons, List.length_append, this]
    simp [hexB]; omega
/-- append(row, bytes...) at a step of a region that draws its order. -/
theorem step_append_bytes (N : Nat) (w w0 : World) {ops : Array Oper} {o : Oper} {act : Act} {K : Act → World → Prop} {Q : Exit → Act → World → Prop} {E : Prop} (hgd : o.guard = none) (s x : Operand)
    (ho : o.op = .call { callee := .builtin .append, args := #[s, x], argTypes := #[56, 56] }) (v : Value) (es ys : List Nat) (hs : act.eval s = v) (hown : OwnB w N v es)
    (B m : Nat) (hx : act.eval x = .slice (some ⟨B, 0, none⟩) m m) (hm : ys.length = m) (hin : BytesIn w (some ⟨B, 0, none⟩) ys) (hlen : es.length + ys.length ≤ 140737488355328) (hN : N ≤ w0.heap.size) (hb : Below N w0 w)
    (hK : ∀ v' w', OwnB w' N v' (es ++ ys) → Below N w0 w' → K (act.put o.dst v') w') : if Region.wanted o (yielded ops act.tmps) = true then Oper.wp Try.prog o act w K Q else E := by
  have hw : Region.wanted o (yielded ops act.tmps) = true := by simp [Region.wanted, hgd]
  rw [if_pos hw]
  exact wp_append_bytes w s x ho N v es ys hs hown (some ⟨B, 0, none⟩) m m hx hm (fun h => by cases h) hin hlen (Nat.le_trans hN hb.size) fun v' w' h1 h2 => hK v' w' h1 (below_grow hN hb hown h2)
theorem two_in {w : World} {B c d : Nat} (h : w.cell? ⟨B, 0, none⟩ = some (.int .u8 (c : Int))) (h2 : w.cell? ⟨B, 1, none⟩ = some (.int .u8 (d : Int))) : BytesIn w (some ⟨B, 0, none⟩) [c, d] := by
  intro i hi
  simp at hi
  rcases (by omega : i = 0 ∨ i = 1) with rfl | rfl
  · exact ⟨B, 0, rfl, h⟩
  · exact ⟨B, 0, rfl, h2⟩
theorem two_new (w : World) (c d : Nat) : BytesIn (w.alloc (.cells #[.int .u8 (c : Int), .int .u8 (d : Int)] 5)) (some ⟨w.heap.size, 0, none⟩) [c, d] := two_in (by simp [go_sem]) (by simp [go_sem])
set_option maxRecDepth 100000 in
theorem hexRun {V : World} {a : Act} {o : Oper} {x : Operand} {k : Nat} (ho : o.op = .index 9 (.const (.string ⟨#[48, 49, 50, 51, 52, 53, 54, 55, 56, 57, 97, 98, 99, 100, 101, 102]⟩)) x) (hx : a.eval x = .int .u8 (k : Int)) (hk : k < 16) : (execOp a.eval o).run Try.prog V = .ok (.value (.int .u8 (hexd k : Nat))) V := by
  unfold execOp
  simp only [ho, hx]
  rcases (by omega : k = 0 ∨ k = 1 ∨ k = 2 ∨ k = 3 ∨ k = 4 ∨ k = 5 ∨ k = 6 ∨ k = 7 ∨ k = 8 ∨ k = 9 ∨ k = 10 ∨ k = 11 ∨ k = 12 ∨ k = 13 ∨ k = 14 ∨ k = 15) with rfl | rfl | rfl | rfl | rfl | rfl | rfl | rfl | rfl | rfl | rfl | rfl | rfl | rfl | rfl | rfl <;> rfl
theorem build2 (V : World) {a : Act} {o : Oper} {x y : Operand} {c d : Nat} (ho : o.op = .buildSlice 56 2 #[(0, x), (1, y)]) (hx : a.eval x = .int .u8 (c : Int)) (hy : a.eval y = .int .u8 (d : Int)) : (execOp a.eval o).run Try.prog V = .ok (.value (.slice (some ⟨V.heap.size, 0, none⟩) 2 2)) (V.alloc (.cells #[.int .u8 (c : Int), .int .u8 (d : Int)] 5)) := by
  unfold execOp
  simp only [ho, List.map_toArray, List.map_cons, List.map_nil, hx, hy]
  simp [Instr.buildSlice, go_sem]
theorem exec_app {w w' : World} {a : Act} {o : Oper} {s x : Operand} {t : TypeId} {vs vx v' : Value} (ho : o.op = .call { callee := .builtin .append, args := #[s, x], argTypes := #[t, t] }) (hs : a.eval s = vs) (hx : a.eval x = vx) (hr : (Builtin.append_ #[t, t] o.type #[vs, vx]).run Try.prog w = .ok v' w') : (execOp a.eval o).run Try.prog w = .ok (.value v') w' := by
  unfold execOp
  simp only [ho, resolve, invoke, builtin, Sem.run_bind, Sem.run_pure, Result.andThen_ok, List.map_toArray, List.map_cons, List.map_nil, hs, hx, hr]
theorem app_own {w : World} {N m : Nat} {v : Value} {es ys : List Nat} {B : Nat} (hown : OwnB w N v es) (hm : ys.length = m) (hin : BytesIn w (some ⟨B, 0, none⟩) ys) (hlen : es.length + ys.length ≤ 140737488355328) (hN : N ≤ w.heap.size) :
    ∃ v' w', (Builtin.append_ #[56, 56] 56 #[v, .slice (some ⟨B, 0, none⟩) m m]).run Try.prog w = .ok v' w' ∧ OwnB w' N v' (es ++ ys) ∧ w.grownBy w' v.ownBlock := by
  obtain ⟨i0, hi, hz0, hz1, hz2⟩ := info_parts infoB
  subst hm
  obtain ⟨v', w', hr, h2, h3, _⟩ := run_append_own_at (P := Try.prog) w N 56 56 5 i0 (.int .u8 0) 1 1 Try.underlying56 hi hz0 hz1 hz2 rfl (by decide) v es.length (vals es) hown ⟨B, 0, none⟩ ys.length ys.length (vals ys) (by rw [vals_len]; omega) hin.news (vals_one ys) (by unfold maxLen; omega) (by omega) hN
  exact ⟨v', w', hr, ownB_join rfl rfl h2, h3⟩
theorem and15 (c : Nat) (h : c < 256) : bits .and .u8 (c : Int) 15 = (c : Int) % 16 := by
  have := u8_and_nat c 15 h (by omega)
  rw [show ((15 : Nat) : Int) = 15 from rfl] at this
  rw [this, show c &&& 15 = c % 16 from Nat.and_two_pow_sub_one_eq_mod c 4]
  omega
set_option maxRecDepth 100000 in
set_option maxHeartbeats 1000000 in
theorem digits_ (N : Nat) (w : World) (v : Value) (xs : List Nat) (s : ByteArray) (hN : N ≤ w.heap.size) (hown : OwnB w N v xs) (hlen : xs.length + 2 * s.size ≤ 140737488355328) :
    Calls Try.prog 29 #[v, .string s] w fun e w' => ∃ v', e = .returned v' ∧ OwnB w' N v' (xs ++ hexL s.data.toList) ∧ Below N w w' := by
  have HO := Lib.hid hown
  have HN := Lib.hid hN
  have HB0 := Lib.hid (Below.refl N w)
  have HL : Hid (∀ j, j ≤ s.size → (xs ++ hexL (s.data.toList.take j)).length + 2 * (s.size - j) ≤ 140737488355328) := fun j hj => by
    rw [List.length_append, hexL_len, List.length_take, ← size_list]; omega
  have HE : Hid (s.data.toList.take s.size = s.data.toList) := by show _ = _; rw [size_list, List.take_length]
  have HST : Hid (∀ j (h : j < s.size), s.data.toList.take (j + 1) = s.data.toList.take j ++ [s[j]]) := fun j h => by
    rw [List.take_add_one, List.getElem?_eq_getElem (by rw [← size_list]; exact h)]; rfl
  have hsz : s.size ≤ 140737488355328 := by omega
  clear hown hN hlen
  go_enter Try.func29, Try.ntmps29
  go_wp2_with fail
  go_loopw [0, 8] (fun v0 jv wr => ∃ j : Nat, j ≤ s.size ∧ jv = .int .i64 j ∧ Hid (OwnB wr N v0 (xs ++ hexL (s.data.toList.take j)) ∧ Below N w wr)) (fun _ jv _ => (s.size - intOf jv).toNat)
  case atStart => exact ⟨0, Nat.zero_le _, rfl, by rw [List.take_zero]; simpa [hexL] using HO.out, HB0.out⟩
  case round =>
    obtain ⟨j, hj, rfl, HI⟩ := hrel
    by_cases hjs : j < s.size
    · obtain ⟨c, hc⟩ : ∃ c : Nat, c = s[j].toNat := ⟨_, rfl⟩
      have hc2 : c < 256 := by rw [hc]; exact s[j].toNat_lt
      have hand := and15 c hc2
      rw [hc] at hand
      obtain ⟨U, hU⟩ : ∃ U, U = wr.drew.alloc (.cells #[.int .u8 ((hexd (c / 16) : Nat) : Int), .int .u8 ((hexd (c % 16) : Nat) : Int)] 5) := ⟨_, rfl⟩
      have HBU : Hid (Below wr.heap.size wr U) := by show Below _ _ _; rw [hU]; exact below_step (below_drew wr) (below_alloc _ _)
      have hNw : N ≤ wr.heap.size := Nat.le_trans HN.out HI.out.2.size
      obtain ⟨v2, W2, hr2, ho2, hg2⟩ := app_own (ys := [hexd (c / 16), hexd (c % 16)]) (m := 2) (B := wr.heap.size) (HI.out.1.on HBU.out) rfl (by rw [hU]; exact two_new wr.drew _ _) (by have := HL.out j hj; simp only [List.length_cons, List.length_nil]; omega) (Nat.le_trans hNw HBU.out.size)
      have HI2 : Hid (OwnB W2 N v2 (xs ++ hexL (s.data.toList.take (j + 1))) ∧ Below N w W2) := by
        refine ⟨?_, below_grow HN.out (below_stepN HN.out HI.out.2 HBU.out) (HI.out.1.on HBU.out) hg2⟩
        rw [HST.out j hjs, hexL_snoc, ← List.append_assoc, show hexB s[j] = [hexd (c / 16), hexd (c % 16)] by rw [hc]; rfl]
        exact ho2
      have hbd : Hid (∀ (a : Act) (o : Oper) (x y : Operand), o.op = .buildSlice 56 2 #[(0, x), (1, y)] → a.eval x = .int .u8 ((hexd (c / 16) : Nat) : Int) → a.eval y = .int .u8 ((hexd (c % 16) : Nat) : Int) → (execOp a.eval o).run Try.prog wr.drew = .ok (.value (.slice (some ⟨wr.heap.size, 0, none⟩) 2 2)) U) := fun a o x y h1 h2 h3 => by rw [hU]; exact build2 wr.drew h1 h2 h3
      clear ho2 hg2 hU
      go_wp2_with fail
      refine wp_region_noPanic ?_
      refine region_ph (A := (fun _ => True)) (e1 := 9999) (B := fun _ => True) (e2 := 9999) (C := fun _ => True) (by kernel_rfl) ⟨(trivial), fun _ => trivial, fun _ => trivial⟩ (fun hSt => ?_)
      refine take_ph 0 (u0) [] rfl (by kernel_rfl) (fun _ _ _ h => h) (Or.inl ⟨by rfl, ?_⟩) hSt (fun hSn => ?_)
      · intro V _; go_simp
      clear hSt; rename Ph _ _ _ _ _ _ _ => hSt
      simp only [Act.put, List.setIfInBounds_toArray, List.set_cons_zero, List.set_cons_succ]
      refine take_ph 1 (.string s) [] rfl (by kernel_rfl) (fun _ _ _ h => h) (Or.inl ⟨by rfl, ?_⟩) hSt (fun hSn => ?_)
      · intro V _; go_simp
      clear hSt; rename Ph _ _ _ _ _ _ _ => hSt
      simp only [Act.put, List.setIfInBounds_toArray, List.set_cons_zero, List.set_cons_succ]
      refine take_ph 2 (.int .i64 j) [] rfl (by kernel_rfl) (fun _ _ _ h => h) (Or.inl ⟨by rfl, ?_⟩) hSt (fun hSn => ?_)
      · intro V _; go_simp
      clear hSt; rename Ph _ _ _ _ _ _ _ => hSt
      simp only [Act.put, List.setIfInBounds_toArray, List.set_cons_zero, List.set_cons_succ]
      refine take_ph 3 (.int .u8 c) [] rfl (by kernel_rfl) (fun _ _ _ h => h) (Or.inl ⟨by rfl, ?_⟩) hSt (fun hSn => ?_)
      · intro V _; go_simp
      clear hSt; rename Ph _ _ _ _ _ _ _ => hSt
      simp only [Act.put, List.setIfInBounds_toArray, List.set_cons_zero, List.set_cons_succ]
      refine take_ph 4 (.int .u8 ((c / 16 : Nat) : Int)) [] rfl (by kernel_rfl) (fun _ _ _ h => h) (Or.inl ⟨by rfl, ?_⟩) hSt (fun hSn => ?_)
      · intro V _; go_simp
      clear hSt; rename Ph _ _ _ _ _ _ _ => hSt
      simp only [Act.put, List.setIfInBounds_toArray, List.set_cons_zero, List.set_cons_succ]
      refine take_ph 5 (.int .u8 (hexd (c / 16) : Nat)) [] rfl (by kernel_rfl) (fun _ _ _ h => h) (Or.inl ⟨by rfl, ?_⟩) hSt (fun hSn => ?_)
      · rintro V ⟨hh, _, _⟩; exact hexRun rfl rfl (by omega)
      clear hSt; rename Ph _ _ _ _ _ _ _ => hSt
      simp only [Act.put, List.setIfInBounds_toArray, List.set_cons_zero, List.set_cons_succ]
      refine take_ph 6 (.string s) [] rfl (by kernel_rfl) (fun _ _ _ h => h) (Or.inl ⟨by rfl, ?_⟩) hSt (fun hSn => ?_)
      · intro V _; go_simp
      clear hSt; rename Ph _ _ _ _ _ _ _ => hSt
      simp only [Act.put, List.setIfInBounds_toArray, List.set_cons_zero, List.set_cons_succ]
      refine take_ph 7 (.int .i64 j) [] rfl (by kernel_rfl) (fun _ _ _ h => h) (Or.inl ⟨by rfl, ?_⟩) hSt (fun hSn => ?_)
      · intro V _; go_simp
      clear hSt; rename Ph _ _ _ _ _ _ _ => hSt
      simp only [Act.put, List.setIfInBounds_toArray, List.set_cons_zero, List.set_cons_succ]
      refine take_ph 8 (.int .u8 c) [] rfl (by kernel_rfl) (fun _ _ _ h => h) (Or.inl ⟨by rfl, ?_⟩) hSt (fun hSn => ?_)
      · intro V _; go_simp
      clear hSt; rename Ph _ _ _ _ _ _ _ => hSt
      simp only [Act.put, List.setIfInBounds_toArray, List.set_cons_zero, List.set_cons_succ]
      refine take_ph 9 (.int .u8 ((c % 16 : Nat) : Int)) [] rfl (by kernel_rfl) (fun _ _ _ h => h) (Or.inl ⟨by rfl, ?_⟩) hSt (fun hSn => ?_)
      · intro V _; go_simp
      clear hSt; rename Ph _ _ _ _ _ _ _ => hSt
      simp only [Act.put, List.setIfInBounds_toArray, List.set_cons_zero, List.set_cons_succ]
      refine take_ph 10 (.int .u8 (hexd (c % 16) : Nat)) [] rfl (by kernel_rfl) (fun _ _ _ h => h) (Or.inl ⟨by rfl, ?_⟩) hSt (fun hSn => ?_)
      · rintro V ⟨hh, _, _⟩; exact hexRun rfl rfl (by omega)
      clear hSt; rename Ph _ _ _ _ _ _ _ => hSt
      simp only [Act.put, List.setIfInBounds_toArray, List.set_cons_zero, List.set_cons_succ]
      refine ready_ph 11 rfl (by kernel_rfl) rfl (.inl (hbd.out _ _ _ _ rfl rfl rfl)) (⟨trivial, fun _ => trivial, fun _ => trivial⟩) (fun hSn => ?_)
      clear hSt; rename Ph _ _ _ _ _ _ _ => hSt
      simp only [Act.put, List.setIfInBounds_toArray, List.set_cons_zero, List.set_cons_succ]
      refine ready_ph 12 rfl (by kernel_rfl) rfl (.inl (exec_app rfl rfl rfl hr2)) (⟨trivial, fun _ => trivial, fun _ => trivial⟩) (fun hSn => ?_)
      clear hSt; rename Ph _ _ _ _ _ _ _ => hSt
      simp only [Act.put, List.setIfInBounds_toArray, List.set_cons_zero, List.set_cons_succ]
      clear hr2 hbd hand HI HBU
      refine take_ph 13 v2 [] rfl (by kernel_rfl) (fun _ _ _ h => h) (Or.inl ⟨by rfl, ?_⟩) hSt (fun hSn => ?_)
      · intro V _; go_simp
      clear hSt; rename Ph _ _ _ _ _ _ _ => hSt
      simp only [Act.put, List.setIfInBounds_toArray, List.set_cons_zero]
      refine done_ph (by kernel_rfl) ?_ _
      clear hSt
      refine NoPanic.normal ?_
      go_wp2_with fail
      go_roundw
      case rel => exact ⟨j + 1, by omega, by go_num, HI2⟩
      case measure => simp [intOf]; omega
    · obtain rfl : j = s.size := by omega
      go_wp2_with fail
      go_ret
      exact ⟨_, rfl, by have := HI.out.1; rw [HE.out] at this; exact this, HI.out.2⟩
end Go.Proofs.Yteeojhmdefhlmaa
