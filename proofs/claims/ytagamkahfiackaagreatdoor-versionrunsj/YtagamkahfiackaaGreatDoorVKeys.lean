/- node.appendKeys, Tree.Keys. -/
import Derived.Test.YtagamkahfiackaaGreatDoorVKeys0
namespace Go.Proofs.YtagamkahfiackaaGreatDoor
open Go.RowKit Go.Sort

theorem exec_append {P : Program} {w w' : World} {a : Act} {o : Oper} {s x : Operand} {t : TypeId} {vs vx v' : Value} (ho : o.op = .call { callee := .builtin .append, args := #[s, x], argTypes := #[t, t] }) (hs : a.eval s = vs) (hx : a.eval x = vx) (hr : (Builtin.append_ #[t, t] o.type #[vs, vx]).run P w = .ok v' w') : (execOp a.eval o).run P w = .ok (.value v') w' := by
  unfold execOp
  simp only [ho, resolve, invoke, builtin, Sem.run_bind, Sem.run_pure, Result.andThen_ok, List.map_toArray, List.map_cons, List.map_nil, hs, hx, hr]
def KeysTo (w : World) (kv : Value) (ks : List ByteArray) (l : List It) (e : Ending) (w' : World) : Prop := ∃ a n c, e = .returned (.slice a n c) ∧ Laid w kv w' (.slice a n c) (ks ++ l.map (·.1))
set_option maxRecDepth 100000 in
set_option maxHeartbeats 2000000 in
theorem akeys_node {w : World} {M : Nat → Option Nd} {h q : Nat} {l : List It} {F : Nat → Prop} {kv : Value} {ks : List ByteArray} (hs : Store w M) (hN : Nod M (h + 1) 1 7 q l F) (hS : Srt l) (hk : RowS w kv ks) (hl : ks.length + l.length ≤ 100000)
    (ih : ∀ {w : World} {v : Value} {l : List It} {kv : Value} {ks : List ByteArray}, Store w M → At M h v l → RowS w kv ks → ks.length + l.length ≤ 100000 → Calls Tryz.prog 48 #[v, kv] w (KeysTo w kv ks l)) :
    Calls Tryz.prog 48 #[.pointer (some ⟨q, 0, none⟩), kv] w (KeysTo w kv ks l) := by
  obtain ⟨n, ls, hq, h7, hlw, hkid⟩ := kids_of hN hS
  obtain ⟨ai, ci, hiv, _⟩ := row_shape (hs.its q n hq)
  obtain ⟨a0, c0, rfl, _⟩ := row_shape hk
  have HS : Hid (∀ V v' l', Laid w (.slice a0 ks.length c0) V v' l' → Store V M) := fun V v' l' hL => hs.rowS hk hL.grown
  have HC : Hid (∀ V, Store V M → V.cell? ⟨q, 0, none⟩ = some (.slice ai n.its.length ci)) := fun V hV => by rw [(hV.cells hq).1, hiv]
  have HIt : Hid (∀ V, Store V M → ∀ i x, n.its[i]? = some x → ∃ g, ai = some ⟨g, 0, none⟩ ∧ V.cell? ⟨g, i * 2, none⟩ = some (.string x.1) ∧ V.cell? ⟨g, i * 2 + 1, none⟩ = some (.slice x.2.a x.2.n x.2.c)) := fun V hV i x hi => by
    obtain ⟨a, c, e1, _, h1⟩ := (hV.its q n hq).items
    rw [hiv] at e1
    cases e1
    obtain ⟨g, e2, _, h2, h3⟩ := h1 i x hi
    exact ⟨g, e2, h2, h3⟩
  have hup : ∀ i, i ≤ n.its.length → (up (n.its.take i) ls).length + (kidL ls i).length ≤ l.length := fun i hi => by
    rcases Nat.lt_or_ge i n.its.length with hlt | hge
    · obtain ⟨x, hx⟩ := getElem?_of_lt hlt
      have e : n.its = n.its.take i ++ (x :: n.its.drop (i + 1)) := by
        obtain ⟨h1, h2⟩ := List.getElem?_eq_some_iff.1 hx
        rw [← h2, ← List.drop_eq_getElem_cons, List.take_append_drop]
      have mono : ∀ (A B : List It) (ls : List (List It)), (up A ls).length ≤ (up (A ++ B) ls).length := by
        intro A
        induction A with
        | nil => intro B ls; simp [up]
        | cons y A ihA => intro B ls; have := ihA B ls.tail; simp [up]; omega
      have m1 := mono (n.its.take i ++ [x]) (n.its.drop (i + 1)) ls
      rw [show n.its.take i ++ [x] ++ n.its.drop (i + 1) = n.its by rw [List.append_assoc]; exact e.symm, up_snoc, List.length_take, Nat.min_eq_left (by omega)] at m1
      have := congrArg List.length hlw
      simp at this m1
      omega
    · have hi' : i = n.its.length := by omega
      rw [hi', List.take_length, hlw]
      simp
  have HKid : Hid (∀ i, i ≤ n.its.length → ∃ v2, (∀ V, Store V M → Calls Tryz.prog 41 #[.pointer (some ⟨q, 0, none⟩), .int .i64 i] V fun e w' => e = .returned v2 ∧ w' = V) ∧ ∀ V kvi, Store V M → RowS V kvi (ks ++ (up (n.its.take i) ls).map (·.1)) → Calls Tryz.prog 48 #[v2, kvi] V (KeysTo V kvi (ks ++ (up (n.its.take i) ls).map (·.1)) (kidL ls i))) := fun i hi => by
    obtain ⟨v2, h1, h2⟩ := hkid i hi
    refine ⟨v2, h2, fun V kvi hV hr => ih hV h1 hr ?_⟩
    have := hup i hi
    simp
    omega
  have HLen : Hid (∀ i, i ≤ n.its.length → (ks ++ (up (n.its.take i) ls).map (·.1) ++ (kidL ls i).map (·.1)).length ≤ 100000) := fun i hi => by
    have := hup i hi
    simp
    omega
  have HNx : Hid (∀ i x, n.its[i]? = some x → ks ++ (up (n.its.take (i + 1)) ls).map (·.1) = ks ++ (up (n.its.take i) ls).map (·.1) ++ (kidL ls i).map (·.1) ++ [x.1]) := fun i x hx => by
    obtain ⟨h1, h2⟩ := List.getElem?_eq_some_iff.1 hx
    rw [List.take_add_one, hx, Option.toList_some, up_snoc, List.length_take, Nat.min_eq_left (by omega)]
    simp
  have HEnd : Hid (ks ++ l.map (·.1) = ks ++ (up (n.its.take n.its.length) ls).map (·.1) ++ (kidL ls n.its.length).map (·.1)) := by
    show _ = _
    rw [hlw, List.take_length]; simp
  have HGet : Hid (∀ i, i < n.its.length → ∃ x, n.its[i]? = some x) := fun i hi => getElem?_of_lt hi
  have HL0 : Hid (Laid w (.slice a0 ks.length c0) w (.slice a0 ks.length c0) (ks ++ (up (n.its.take 0) ls).map (·.1))) := by
    have := Laid.refl hk
    simpa [Hid, up] using this
  have d0 := HC.out w hs
  clear hs hN hS hk hl ih hq hlw hkid hiv hup
  generalize hnl : n.its.length = nl at *
  generalize hkl : ks.length = kl at *
  clear hnl hkl
  go_enter Tryz.func48, Tryz.ntmps48
  go_wp2_with fail
  go_loopg [1, 15] nl (fun kx s1 s15 wr => ∃ (i : Nat) (a : Option Addr) (m c : Nat), s15 = .int .i64 i ∧ s1 = .slice a m c ∧ i ≤ nl ∧ nl - i ≤ kx ∧ Hid (Laid w (.slice a0 kl c0) wr (.slice a m c) (ks ++ (up (n.its.take i) ls).map (·.1))))
  case atStart => exact ⟨0, a0, kl, c0, rfl, rfl, Nat.zero_le _, by omega, HL0⟩
  case round =>
    clear HL0
    obtain ⟨i, a, m, c, rfl, rfl, hi, hkx, HL⟩ := hrel
    have HSr := Lib.hid (HS.out _ _ _ HL.out)
    obtain ⟨v2, hc2, hr2⟩ := HKid.out i hi
    have HCh := Lib.hid hc2
    have HRec := Lib.hid hr2
    clear hc2 hr2 HKid
    by_cases hlt : i < nl
    · obtain ⟨x, hx⟩ := HGet.out i hlt
      obtain ⟨g, rfl, c1, c2⟩ := HIt.out wr HSr.out i x hx
      have HX := Lib.hid (HNx.out i x hx)
      have HLe := Lib.hid (HLen.out i (by omega))
      obtain ⟨x1, x2⟩ := x
      simp only at c1 c2 HX
      clear hx HNx HGet HIt HLen HEnd HC d0
      go_wp2_with fail
      obtain ⟨W0, hW0⟩ : ∃ W0, W0 = wr.alloc (.cells #[.string x1, .slice x2.a x2.n x2.c] 99) := ⟨_, rfl⟩
      have HB0 : Hid (Below wr.heap.size wr W0.drew) := by show Below _ _ _; rw [hW0]; exact below_step (below_alloc wr _) (below_drew _)
      have HBx : Hid (W0.drew.heap[wr.heap.size]? = some (.cells #[.string x1, .slice x2.a x2.n x2.c] 99 (0, 0))) := by show W0.heap[_]? = _; rw [hW0]; exact new_blk wr _
      rw [← hW0]
      clear hW0
      generalize hW : W0.drew = W at HB0 HBx
      have HW := Lib.hid hW
      have HSW := Lib.hid (HSr.out.on HB0.out)
      have HRW : Hid (RowS W (.slice a m c) (ks ++ (up (n.its.take i) ls).map (·.1))) := row_on HL.out.row HB0.out
      have HLW := Lib.hid (HL.out.behind HB0.out)
      obtain ⟨kl0, hkl0⟩ : ∃ kl0, kl0 = ks ++ (up (n.its.take i) ls).map (·.1) := ⟨_, rfl⟩
      rw [← hkl0] at HRec HX HLe HRW HLW
      obtain ⟨lk, hlk⟩ : ∃ lk, lk = kidL ls i := ⟨_, rfl⟩
      rw [← hlk] at HRec HX HLe
      clear hkl0 hlk HSr HL HS c1 c2 hW
      have hNm : wr.heap.size ≠ W.heap.size := fun e => by have := blk_lt HBx.out; omega
      refine wp_region_noPanic ?_
      refine region_ph (A := fun _ => True) (e1 := 7) (B := fun V => V.cell? ⟨wr.heap.size, 0, none⟩ = some (.string x1)) (e2 := 7) (C := fun _ => True) (by kernel_rfl) ⟨trivial, fun _ => by rw [HW.out]; exact cell_of HBx.out rfl, fun _ => trivial⟩ (fun hSt => ?_)
      rw [HW.out] at hSt ⊢
      clear HW
      refine take_ph 0 (.pointer (some ⟨q, 0, none⟩)) [] rfl (by kernel_rfl) (fun _ _ _ h => h) (Or.inl ⟨by rfl, ?_⟩) hSt (fun hSn => ?_)
      · intro V _; go_simp
      clear hSt; rename Ph _ _ _ _ _ _ _ => hSt
      simp only [Act.put, List.setIfInBounds_toArray, List.set_cons_zero, List.set_cons_succ]
      refine take_ph 1 (.int .i64 i) [] rfl (by kernel_rfl) (fun _ _ _ h => h) (Or.inl ⟨by rfl, ?_⟩) hSt (fun hSn => ?_)
      · intro V _; go_simp
      clear hSt; rename Ph _ _ _ _ _ _ _ => hSt
      simp only [Act.put, List.setIfInBounds_toArray, List.set_cons_zero, List.set_cons_succ]
      refine take_ph 3 (.slice a m c) [] rfl (by kernel_rfl) (fun _ _ _ h => h) (Or.inl ⟨by rfl, ?_⟩) hSt (fun hSn => ?_)
      · intro V _; go_simp
      clear hSt; rename Ph _ _ _ _ _ _ _ => hSt
      simp only [Act.put, List.setIfInBounds_toArray, List.set_cons_zero, List.set_cons_succ]
      refine take_ph 5 (.pointer (some ⟨wr.heap.size, 0, none⟩)) [] rfl (by kernel_rfl) (fun _ _ _ h => h) (Or.inl ⟨by rfl, ?_⟩) hSt (fun hSn => ?_)
      · intro V _; go_simp
      clear hSt; rename Ph _ _ _ _ _ _ _ => hSt
      simp only [Act.put, List.setIfInBounds_toArray, List.set_cons_zero, List.set_cons_succ]
      refine take_ph 6 (.string x1) [7] rfl (by kernel_rfl) (fun _ _ _ h => h) (Or.inl ⟨by rfl, ?_⟩) hSt (fun hSn => ?_)
      · rintro V ⟨_, hB, hC⟩; have hh := hB (by decide); have e0 := hh; clear hB hC; go_simp
      clear hSt; rename Ph _ _ _ _ _ _ _ => hSt
      simp only [Act.put, List.setIfInBounds_toArray, List.set_cons_zero, List.set_cons_succ]
      refine two_ph 2 7 (by kernel_rfl) ?_ ?_
      · refine one_call rfl (fun KK hK => ?_)
        go_simp
        go_wp2_with (first | (go_at_call 41; refine (HCh.out _ HSW.out).mono ?_; rintro e w9 ⟨rfl, hw9⟩; have hw9 := hw9.symm; subst hw9))
        refine hK.out _ _ ?_ (fun hSn => ?_)
        · exact ⟨trivial, fun _ => cell_of HBx.out rfl, fun _ => trivial⟩
        clear hK KK hSt; rename Ph _ _ _ _ _ _ _ => hSt
        refine two_ph 4 7 (by kernel_rfl) ?_ ?_
        · refine one_call rfl (fun KK hK => ?_)
          go_simp
          go_wp2_with (first | (go_at_call 48; refine (HRec.out _ _ HSW.out HRW.out).mono ?_; rintro e V1 ⟨a1, m1, c1, rfl, hl1⟩; have HL1 := Lib.hid hl1; clear hl1))
          refine hK.out _ _ ?_ (fun hSn => ?_)
          · exact ⟨trivial, fun _ => cell_of (HL1.out.stays HRW.out HBx.out (.inl (by decide))) rfl, fun _ => trivial⟩
          clear hK KK hSt; rename Ph _ _ _ _ _ _ _ => hSt
          obtain ⟨U, hU⟩ : ∃ U, U = V1.alloc (.cells #[.string x1] 9) := ⟨_, rfl⟩
          have hrb : Hid (∀ (a : Act) (o : Oper) (z : Operand), o.op = .buildSlice 85 1 #[(0, z)] → a.eval z = .string x1 → (execOp a.eval o).run Tryz.prog V1 = .ok (.value (.slice (some ⟨V1.heap.size, 0, none⟩) 1 1)) U) := fun a o z h1 h2 => by rw [hU]; exact run_buildS V1 x1 a o z h1 h2
          obtain ⟨v3, V2, hap, hl3⟩ := appS_run (row_on HL1.out.row (by rw [hU]; exact below_alloc V1 _)) HLe.out (x := x1) (b := V1.heap.size) (w := U) (by rw [hU]; exact new_blk V1 _) 85
          have HLF : Hid (Laid w (.slice a0 kl c0) V2 v3 (kl0 ++ lk.map (·.1) ++ [x1])) := HLW.out.trans (HL1.out.trans (hl3.before (by rw [hU]; exact below_alloc V1 _)))
          obtain ⟨a3, m3, c3, rfl⟩ := hl3.shape
          clear hU hl3
          refine ready_ph 7 rfl (by kernel_rfl) rfl (.inl (hrb.out _ _ _ rfl rfl)) (⟨trivial, fun h => absurd (show true = false from h) (by decide), fun _ => trivial⟩) (fun hSn => ?_)
          clear hSt; rename Ph _ _ _ _ _ _ _ => hSt
          simp only [Act.put, List.setIfInBounds_toArray, List.set_cons_zero, List.set_cons_succ]
          refine ready_ph 8 rfl (by kernel_rfl) rfl (.inl (exec_append rfl rfl rfl hap)) (⟨trivial, fun h => absurd (show true = false from h) (by decide), fun _ => trivial⟩) (fun hSn => ?_)
          clear hSt; rename Ph _ _ _ _ _ _ _ => hSt
          simp only [Act.put, List.setIfInBounds_toArray, List.set_cons_zero, List.set_cons_succ]
          refine take_ph 9 (.slice a3 m3 c3) [] rfl (by kernel_rfl) (fun _ _ _ h => h) (Or.inl ⟨by rfl, ?_⟩) hSt (fun hSn => ?_)
          · intro V _; go_simp
          clear hSt; rename Ph _ _ _ _ _ _ _ => hSt
          simp only [Act.put, List.setIfInBounds_toArray, List.set_cons_zero, List.set_cons_succ]
          refine done_ph (by kernel_rfl) ?_ _
          clear hSt
          refine NoPanic.normal ?_
          rw [← HX.out] at HLF
          clear HCh HRec HSW HRW HLW HBx HX HLe HL1 hrb hap HB0
          go_wp2_with fail
          go_roundg (nl - (i + 1))
          case measure => omega
          case rel => exact ⟨i + 1, a3, m3, c3, by rw [show (i : Int) + 1 = ((i + 1 : Nat) : Int) by omega], rfl, by omega, Nat.le_refl _, HLF⟩
        · obtain ⟨U, hU⟩ : ∃ U, U = W.alloc (.cells #[.string x1] 9) := ⟨_, rfl⟩
          have hrb : Hid (∀ (a : Act) (o : Oper) (z : Operand), o.op = .buildSlice 85 1 #[(0, z)] → a.eval z = .string x1 → (execOp a.eval o).run Tryz.prog W = .ok (.value (.slice (some ⟨W.heap.size, 0, none⟩) 1 1)) U) := fun a o z h1 h2 => by rw [hU]; exact run_buildS W x1 a o z h1 h2
          have HBU : Hid (Below W.heap.size W U) := by show Below _ _ _; rw [hU]; exact below_alloc W _
          have HUb : Hid (U.heap[W.heap.size]? = some (.cells #[.string x1] 9 (0, 0))) := by show _ = _; rw [hU]; exact new_blk W _
          have HSU := Lib.hid (HSW.out.on HBU.out)
          have HRU : Hid (RowS U (.slice a m c) kl0) := row_on HRW.out HBU.out
          clear hU
          refine one_run rfl rfl (hrb.out _ _ _ rfl rfl) ⟨trivial, fun h => absurd (show true = false from h) (by decide), fun _ => trivial⟩ (fun hSn => ?_)
          clear hSt; rename Ph _ _ _ _ _ _ _ => hSt
          simp only [Act.put, List.setIfInBounds_toArray, List.set_cons_zero, List.set_cons_succ]
          refine ready_call_ph 4 rfl (by kernel_rfl) (fun KK hK => ?_)
          go_simp
          go_wp2_with (first | (go_at_call 48; refine (HRec.out _ _ HSU.out HRU.out).mono ?_; rintro e V1 ⟨a1, m1, c1, rfl, HL1⟩))
          refine hK.out _ _ ?_ (fun hSn => ?_)
          · exact ⟨trivial, fun h => absurd (show true = false from h) (by decide), fun _ => trivial⟩
          clear hK KK hSt; rename Ph _ _ _ _ _ _ _ => hSt
          have hne : (Value.slice a m c).ownBlock ≠ some W.heap.size := fun e => by
            obtain ⟨cur, hc⟩ := row_block HRW.out e
            have := blk_lt hc; omega
          obtain ⟨v3, V2, hap, hl3⟩ := appS_run HL1.row (by exact HLe.out) (x := x1) (b := W.heap.size) (HL1.stays HRU.out HUb.out (.inr hne)) 85
          have HLF : Hid (Laid w (.slice a0 kl c0) V2 v3 (kl0 ++ lk.map (·.1) ++ [x1])) := (HLW.out.trans (HL1.before HBU.out)).trans hl3
          obtain ⟨a3, m3, c3, rfl⟩ := hl3.shape
          clear hl3
          refine ready_ph 8 rfl (by kernel_rfl) rfl (.inl (exec_append rfl rfl rfl hap)) (⟨trivial, fun h => absurd (show true = false from h) (by decide), fun _ => trivial⟩) (fun hSn => ?_)
          clear hSt; rename Ph _ _ _ _ _ _ _ => hSt
          simp only [Act.put, List.setIfInBounds_toArray, List.set_cons_zero, List.set_cons_succ]
          refine take_ph 9 (.slice a3 m3 c3) [] rfl (by kernel_rfl) (fun _ _ _ h => h) (Or.inl ⟨by rfl, ?_⟩) hSt (fun hSn => ?_)
          · intro V _; go_simp
          clear hSt; rename Ph _ _ _ _ _ _ _ => hSt
          simp only [Act.put, List.setIfInBounds_toArray, List.set_cons_zero, List.set_cons_succ]
          refine done_ph (by kernel_rfl) ?_ _
          clear hSt
          refine NoPanic.normal ?_
          rw [← HX.out] at HLF
          clear HCh HRec HSW HRW HLW HBx HX HLe HL1 hrb hap HB0 HBU HUb HSU HRU hne
          go_wp2_with fail
          go_roundg (nl - (i + 1))
          case measure => omega
          case rel => exact ⟨i + 1, a3, m3, c3, by rw [show (i : Int) + 1 = ((i + 1 : Nat) : Int) by omega], rfl, by omega, Nat.le_refl _, HLF⟩
      · obtain ⟨U, hU⟩ : ∃ U, U = W.alloc (.cells #[.string x1] 9) := ⟨_, rfl⟩
        have hrb : Hid (∀ (a : Act) (o : Oper) (z : Operand), o.op = .buildSlice 85 1 #[(0, z)] → a.eval z = .string x1 → (execOp a.eval o).run Tryz.prog W = .ok (.value (.slice (some ⟨W.heap.size, 0, none⟩) 1 1)) U) := fun a o z h1 h2 => by rw [hU]; exact run_buildS W x1 a o z h1 h2
        have HBU : Hid (Below W.heap.size W U) := by show Below _ _ _; rw [hU]; exact below_alloc W _
        have HUb : Hid (U.heap[W.heap.size]? = some (.cells #[.string x1] 9 (0, 0))) := by show _ = _; rw [hU]; exact new_blk W _
        have HSU := Lib.hid (HSW.out.on HBU.out)
        have HRU : Hid (RowS U (.slice a m c) kl0) := row_on HRW.out HBU.out
        clear hU
        refine one_run rfl rfl (hrb.out _ _ _ rfl rfl) ⟨trivial, fun h => absurd (show true = false from h) (by decide), fun _ => trivial⟩ (fun hSn => ?_)
        clear hSt; rename Ph _ _ _ _ _ _ _ => hSt
        simp only [Act.put, List.setIfInBounds_toArray, List.set_cons_zero, List.set_cons_succ]
        refine ready_call_ph 2 rfl (by kernel_rfl) (fun KK hK => ?_)
        go_simp
        go_wp2_with (first | (go_at_call 41; refine (HCh.out _ HSU.out).mono ?_; rintro e w9 ⟨rfl, hw9⟩; have hw9 := hw9.symm; subst hw9))
        refine hK.out _ _ ?_ (fun hSn => ?_)
        · exact ⟨trivial, fun h => absurd (show true = false from h) (by decide), fun _ => trivial⟩
        clear hK KK hSt; rename Ph _ _ _ _ _ _ _ => hSt
        refine ready_call_ph 4 rfl (by kernel_rfl) (fun KK hK => ?_)
        go_simp
        go_wp2_with (first | (go_at_call 48; refine (HRec.out _ _ HSU.out HRU.out).mono ?_; rintro e V1 ⟨a1, m1, c1, rfl, HL1⟩))
        refine hK.out _ _ ?_ (fun hSn => ?_)
        · exact ⟨trivial, fun h => absurd (show true = false from h) (by decide), fun _ => trivial⟩
        clear hK KK hSt; rename Ph _ _ _ _ _ _ _ => hSt
        have hne : (Value.slice a m c).ownBlock ≠ some W.heap.size := fun e => by
          obtain ⟨cur, hc⟩ := row_block HRW.out e
          have := blk_lt hc; omega
        obtain ⟨v3, V2, hap, hl3⟩ := appS_run HL1.row (by exact HLe.out) (x := x1) (b := W.heap.size) (HL1.stays HRU.out HUb.out (.inr hne)) 85
        have HLF : Hid (Laid w (.slice a0 kl c0) V2 v3 (kl0 ++ lk.map (·.1) ++ [x1])) := (HLW.out.trans (HL1.before HBU.out)).trans hl3
        obtain ⟨a3, m3, c3, rfl⟩ := hl3.shape
        clear hl3
        refine ready_ph 8 rfl (by kernel_rfl) rfl (.inl (exec_append rfl rfl rfl hap)) (⟨trivial, fun h => absurd (show true = false from h) (by decide), fun _ => trivial⟩) (fun hSn => ?_)
        clear hSt; rename Ph _ _ _ _ _ _ _ => hSt
        simp only [Act.put, List.setIfInBounds_toArray, List.set_cons_zero, List.set_cons_succ]
        refine take_ph 9 (.slice a3 m3 c3) [] rfl (by kernel_rfl) (fun _ _ _ h => h) (Or.inl ⟨by rfl, ?_⟩) hSt (fun hSn => ?_)
        · intro V _; go_simp
        clear hSt; rename Ph _ _ _ _ _ _ _ => hSt
        simp only [Act.put, List.setIfInBounds_toArray, List.set_cons_zero, List.set_cons_succ]
        refine done_ph (by kernel_rfl) ?_ _
        clear hSt
        refine NoPanic.normal ?_
        rw [← HX.out] at HLF
        clear HCh HRec HSW HRW HLW HBx HX HLe HL1 hrb hap HB0 HBU HUb HSU HRU hne
        go_wp2_with fail
        go_roundg (nl - (i + 1))
        case measure => omega
        case rel => exact ⟨i + 1, a3, m3, c3, by rw [show (i : Int) + 1 = ((i + 1 : Nat) : Int) by omega], rfl, by omega, Nat.le_refl _, HLF⟩
    · obtain rfl : i = nl := by omega
      have HRr : Hid (RowS wr (.slice a m c) (ks ++ (up (n.its.take i) ls).map (·.1))) := HL.out.row
      have d1 := HC.out wr HSr.out
      clear HNx HGet HIt HLen HC d0 HS
      go_wp2_with (first
        | (go_at_call 41; refine (HCh.out _ HSr.out).mono ?_; rintro e w9 ⟨rfl, rfl⟩)
        | (go_at_call 48; refine (HRec.out _ _ HSr.out HRr.out).mono ?_; rintro e V1 ⟨a1, m1, c1, rfl, hl1⟩; have HL1 := Lib.hid hl1; clear hl1)
        | fail)
      go_ret
      exact ⟨a1, m1, c1, rfl, by rw [HEnd.out]; exact HL.out.trans HL1.out⟩
theorem akeys_ {M : Nat → Option Nd} : ∀ (kx : Nat) {w : World} {v : Value} {l : List It} {kv : Value} {ks : List ByteArray}, Store w M → At M kx v l → RowS w kv ks → ks.length + l.length ≤ 100000 → Calls Tryz.prog 48 #[v, kv] w (KeysTo w kv ks l) := by
  have nil : ∀ {w : World} {kv : Value} {ks : List ByteArray}, RowS w kv ks → Calls Tryz.prog 48 #[.pointer none, kv] w (KeysTo w kv ks []) := by
    intro w kv ks hk
    obtain ⟨a0, c0, rfl, _⟩ := row_shape hk
    have HZ : Hid (KeysTo w (.slice a0 ks.length c0) ks [] (.returned (.slice a0 ks.length c0)) w) := ⟨a0, _, c0, rfl, by simpa using Laid.refl hk⟩
    clear hk
    generalize ks.length = n at *
    go_enter Tryz.func48, Tryz.ntmps48
    go_wp2_with fail
    go_ret
    exact HZ.out
  intro kx
  induction kx with
  | zero =>
    intro w v l kv ks hs hA hk hl
    rcases hA with ⟨rfl, rfl⟩ | ⟨h, q, F, hlt, _⟩
    · exact nil hk
    · omega
  | succ kx ih =>
    intro w v l kv ks hs hA hk hl
    rcases hA with ⟨rfl, rfl⟩ | ⟨h, q, F, hlt, rfl, hN, hS⟩
    · exact nil hk
    · exact akeys_node hs hN hS hk hl fun {w v l kv ks} hs hA hk hl => ih hs (hA.up (by omega)) hk hl
theorem tkeys_ {w : World} {M : Nat → Option Nd} {p : Nat} {l : List It} {F : Nat → Prop} (hs : Store w M) (ht : TreeAt w M p l F) (hl : l.length ≤ 100000) :
    Calls Tryz.prog 32 #[.pointer (some ⟨p, 0, none⟩)] w fun e w' => ∃ a n c, e = .returned (.slice a n c) ∧ RowS w' (.slice a n c) (l.map (·.1)) ∧ Below w.heap.size w w' ∧ ∀ g, (Value.slice a n c).ownBlock = some g → w.heap.size ≤ g := by
  obtain ⟨kx, v, hA, htop⟩ := ht.top
  have HT := Lib.hid htop
  have HK : Hid (Calls Tryz.prog 48 #[v, .slice none 0 0] w fun e w' => ∃ a n c, e = .returned (.slice a n c) ∧ Hid (RowS w' (.slice a n c) (l.map (·.1)) ∧ Below w.heap.size w w' ∧ ∀ g, (Value.slice a n c).ownBlock = some g → w.heap.size ≤ g)) := by
    refine (akeys_ kx (kv := .slice none 0 0) (ks := []) hs hA (World.ownsRow_nil w 0 9 1) (by simpa using hl)).mono ?_
    rintro e w' ⟨a, n, c, rfl, hL⟩
    refine ⟨a, n, c, rfl, by simpa using hL.row, ⟨hL.grown.os, hL.grown.tape, hL.grown.output, hL.grown.size, fun k hk => hL.grown.block k hk (fun e => by cases e)⟩, fun g hg => ?_⟩
    rcases hL.at' with e | ⟨g', e, hge⟩
    · rw [hg] at e; cases e
    · rw [hg] at e; cases e; exact hge
  clear hs ht hA htop
  go_enter Tryz.func32, Tryz.ntmps32
  go_wp2_with (first
    | (go_at_call 39; refine HT.out.mono ?_; rintro e w9 ⟨rfl, rfl⟩)
    | (go_at_call 48; refine HK.out.mono ?_; rintro e V1 ⟨a1, m1, c1, rfl, HL1⟩)
    | fail)
  go_ret
  exact ⟨a1, m1, c1, rfl, HL1.out⟩
end Go.Proofs.YtagamkahfiackaaGreatDoor
