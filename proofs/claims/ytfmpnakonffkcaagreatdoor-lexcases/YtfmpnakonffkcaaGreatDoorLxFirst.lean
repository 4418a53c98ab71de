/- The walk of lex.first. -/
import Derived.Test.YtfmpnakonffkcaaGreatDoorLxTxt
namespace Go.Proofs.YtfmpnakonffkcaaGreatDoor
open Go.RowKit Go.Sort

theorem tw_extract (s : ByteArray) (p : UInt8 → Bool) : lst (s.extract 0 (((lst s).takeWhile p).length)) = (lst s).takeWhile p := by
  rw [take_lst]
  have h : ∀ l : List UInt8, l.take ((l.takeWhile p).length) = l.takeWhile p := by
    intro l
    induction l with
    | nil => rfl
    | cons c l ih =>
      rw [List.takeWhile_cons]
      split
      · rw [List.length_cons, List.take_succ_cons, ih]
      · rfl
  exact h _
theorem tw_mem0 {p : UInt8 → Bool} : ∀ {l : List UInt8} {c : UInt8}, c ∈ l.takeWhile p → p c = true
  | d :: l, c, h => by
    rw [List.takeWhile_cons] at h
    cases hd : p d with
    | false => rw [hd] at h; simp at h
    | true =>
      rw [hd] at h
      rcases List.mem_cons.1 h with rfl | h
      · exact hd
      · exact tw_mem0 h
theorem ent_ofWord : ∀ args w, (callFunc 27 args).run Tryz.prog w = .ok (.enter 27 args) w := enters_of Tryz.func27 (by kernel_rfl) rfl
theorem ent_digit : ∀ args w, (callFunc 29 args).run Tryz.prog w = .ok (.enter 29 args) w := enters_of Tryz.func29 (by kernel_rfl) rfl
theorem ent_blank : ∀ args w, (callFunc 17 args).run Tryz.prog w = .ok (.enter 17 args) w := enters_of Tryz.func17 (by kernel_rfl) rfl
set_option maxHeartbeats 4000000 in
theorem first_ (s : ByteArray) (w : World) (hs : s.size ≤ 1000000000) (hE : Env w) : Calls Tryz.prog 18 #[.string s] w fun e w' => e = .returned (gotV (first (lst s))) ∧ Below w.heap.size w w' := by
  have F0 := Lib.hid (frT_start w 46)
  have HEv := Lib.hid hE
  clear hE
  cases hl : lst s with
  | nil =>
    have h1 : (s.toList == []) = true := by rw [toList_lst, hl]; rfl
    clear hl HEv
    go_enter Tryz.func18, Tryz.ntmps18
    go_wp2_with fail
    obtain ⟨⟨r0, r1, r2, r3⟩, ⟨f0, f1, f2, f3⟩, hbw, hsz⟩ := F0.out
    refine bodyPost_ret (v := .tuple #[.agg #[.int .i64 0, .string ⟨#[]⟩, .int .i64 0, .int .i64 0], .int .i64 0, .iface 42 (.int .i64 3)]) ?_ rfl ⟨rfl, hbw⟩
    simp [results, Tryz.results18, go_sem, r0, r1, r2, r3, tk0]
  | cons c r =>
    have h1 : (s.toList == []) = false := by rw [toList_lst, hl]; rfl
    have h0 : 0 < s.size := by rw [size_lst, hl]; simp
    have hc : s[0] = c := by
      have := drop_at s 0 h0
      rw [hl] at this
      simp only [List.drop_zero, List.cons.injEq] at this
      exact this.1.symm
    have HLt : Hid (∀ W, Calls Tryz.prog 26 #[.int .u8 (c.toNat : Int)] W fun e w' => e = .returned (.bool (letB c)) ∧ w' = W) := fun W => letter_ c W
    have HDg : Hid (∀ W, Calls Tryz.prog 29 #[.int .u8 (c.toNat : Int)] W fun e w' => e = .returned (.bool (isDig c)) ∧ w' = W) := fun W => digit_ c W
    have hn63 : (0 : Int) < (s.size : Int) := by omega
    cases hb1 : letB c with
    | true =>
      obtain ⟨k, hk⟩ : ∃ k, ((lst s).takeWhile ofW).length = k := ⟨_, rfl⟩
      have hkn : k ≤ s.size := by rw [← hk, size_lst]; exact tw_len _ _
      have hex : lst (s.extract 0 k) = (c :: r).takeWhile ofW := by rw [← hk, tw_extract, hl]
      have HSp : Hid (∀ W, Calls Tryz.prog 16 #[.string s, .func (.func 27) #[] #[]] W fun e w' => e = .returned (.int .i64 (k : Nat)) ∧ w' = W) := fun W => by
        rw [← hk]; exact span_ 27 ofW s W ent_ofWord ofWord_ (by omega)
      have HLo : Hid (∀ W, Calls Tryz.prog 28 #[.string (s.extract 0 k)] W fun e w' => e = .returned (.string (ofL (((c :: r).takeWhile ofW).map low))) ∧ Below W.heap.size W w') := fun W => by
        rw [← hex]
        exact lower_ _ W (by rw [ByteArray.size_extract]; omega) (by rw [hex]; exact fun d hd => tw_mem0 hd)
      rw [first_let hb1]
      have hlen : ((c :: r).takeWhile ofW).length = k := by rw [← hl]; exact hk
      rw [hlen]
      rw [hb1] at HLt
      generalize ofL (((c :: r).takeWhile ofW).map low) = X at *
      obtain ⟨n, hn⟩ : ∃ n, s.size = n := ⟨_, rfl⟩
      rw [hn] at hkn hn63
      have hk0 : (0 : Int) ≤ (k : Int) := by omega
      have hk1 : (k : Int) ≤ (n : Int) := by omega
      clear hk hex hlen hl HDg
      go_enter Tryz.func18, Tryz.ntmps18
      go_wp2_with fail
      refine (HLt.out _).mono ?_
      rintro e w1 ⟨rfl, hw⟩
      rw [← hw] at F0
      clear hw HLt
      go_wp2_with fail
      refine (HSp.out _).mono ?_
      rintro e w2 ⟨rfl, hw⟩
      rw [← hw] at F0
      clear hw HSp
      go_wp2_with fail
      refine (HLo.out _).mono ?_
      rintro e w3 ⟨rfl, hb3⟩
      have F3 := F0.out.on hb3
      clear hb3 F0 HLo
      obtain ⟨⟨r0, r1, r2, r3⟩, ⟨f0, f1, f2, f3⟩, hbw, hsz⟩ := F3
      go_wp2_with fail
      refine bodyPost_ret (v := .tuple #[.agg #[.int .i64 1, .string X, .int .i64 0, .int .i64 0], .int .i64 k, .nilIface]) ?_ rfl ⟨rfl, four_set hbw (w.heap.size) (by omega) _ _ _ _⟩
      simp [results, Tryz.results18, go_sem, r0, r1, r2, r3]
    | false =>
      rw [hb1] at HLt
      cases hb2 : isDig c with
      | true =>
        obtain ⟨k, hk⟩ : ∃ k, ((lst s).takeWhile isDig).length = k := ⟨_, rfl⟩
        have hkn : k ≤ s.size := by rw [← hk, size_lst]; exact tw_len _ _
        have hk00 : 0 < k := by rw [← hk, hl]; exact tw_pos hb2
        have hex : lst (s.extract 0 k) = (c :: r).takeWhile isDig := by rw [← hk, tw_extract, hl]
        have HSp : Hid (∀ W, Calls Tryz.prog 16 #[.string s, .func (.func 29) #[] #[]] W fun e w' => e = .returned (.int .i64 (k : Nat)) ∧ w' = W) := fun W => by
          rw [← hk]; exact span_ 29 isDig s W ent_digit digit_ (by omega)
        have HNu : Hid (∀ W, Below w.heap.size w W → Calls Tryz.prog 30 #[.string (s.extract 0 k)] W fun e w' => e = .returned (gotV (numG ((c :: r).takeWhile isDig))) ∧ Below W.heap.size W w') := fun W hW => by
          rw [← hex]
          exact number_ _ W (by rw [ByteArray.size_extract]; omega) (by rw [ByteArray.size_extract]; omega) (by rw [hex]; exact fun d hd => tw_mem0 hd) (HEv.out.on hW)
        rw [first_dig hb2]
        rw [hb2] at HDg
        show Calls _ _ _ _ fun e w' => e = .returned (gotV (numG ((c :: r).takeWhile isDig))) ∧ _
        obtain ⟨T, hT⟩ : ∃ T, (numG ((c :: r).takeWhile isDig)).t = T := ⟨_, rfl⟩
        obtain ⟨Z, hZ⟩ : ∃ Z, (numG ((c :: r).takeWhile isDig)).s = Z := ⟨_, rfl⟩
        obtain ⟨E, hE⟩ : ∃ E, errV 42 (numG ((c :: r).takeWhile isDig)).e = E := ⟨_, rfl⟩
        unfold gotV agT at HNu ⊢
        rw [hT, hZ, hE] at HNu ⊢
        obtain ⟨n, hn⟩ : ∃ n, s.size = n := ⟨_, rfl⟩
        rw [hn] at hkn hn63
        have hk0 : (0 : Int) ≤ (k : Int) := by omega
        have hk1 : (k : Int) ≤ (n : Int) := by omega
        clear hk hex hl hT hZ hE HEv
        go_enter Tryz.func18, Tryz.ntmps18
        go_wp2_with fail
        refine (HLt.out _).mono ?_
        rintro e w1 ⟨rfl, hw⟩
        rw [← hw] at F0
        clear hw HLt
        go_wp2_with fail
        refine (HDg.out _).mono ?_
        rintro e w1 ⟨rfl, hw⟩
        rw [← hw] at F0
        clear hw HDg
        go_wp2_with fail
        refine (HSp.out _).mono ?_
        rintro e w2 ⟨rfl, hw⟩
        rw [← hw] at F0
        clear hw HSp
        go_wp2_with fail
        refine (HNu.out _ F0.out.2.2.1).mono ?_
        rintro e w3 ⟨rfl, hb3⟩
        have F3 := F0.out.on hb3
        clear hb3 F0 HNu
        obtain ⟨⟨r0, r1, r2, r3⟩, ⟨f0, f1, f2, f3⟩, hbw, hsz⟩ := F3
        go_wp2_with fail
        refine bodyPost_ret (v := .tuple #[.agg #[.int .i64 T.k, .string T.tx, .int .i64 T.n, .int .i64 T.p], .int .i64 Z, E]) ?_ rfl ⟨rfl, four_set hbw (w.heap.size) (by omega) _ _ _ _⟩
        simp [results, Tryz.results18, go_sem, r0, r1, r2, r3]
      | false =>
        rw [hb2] at HDg
        have HPx : Hid (∀ W, Calls Tryz.prog 31 #[.string s, .string ⟨#[39]⟩] W fun e w' => e = .returned (.bool (decide (c = 39))) ∧ w' = W) := fun W => by
          rw [← pfx_q1 (c := c) (l := r), ← hl]; exact pfx_ s ⟨#[39]⟩ W
        by_cases hq : c = 39
        · have hl39 : lst s = 39 :: r := by rw [hl, hq]
          have hd1 : (lst s).drop 1 = r := by rw [hl]; rfl
          have HTx : Hid (∀ W, Below w.heap.size w W → Calls Tryz.prog 32 #[.string s] W fun e w' => e = .returned (gotV (txtG (textR r))) ∧ Below W.heap.size W w') := fun W hW => by
            rw [← hd1]; exact text_ s W hs ⟨r, hl39⟩ (HEv.out.on hW)
          rw [decide_eq_true hq] at HPx
          rw [show first (c :: r) = txtG (textR r) by rw [hq]; rfl]
          obtain ⟨T, hT⟩ : ∃ T, (txtG (textR r)).t = T := ⟨_, rfl⟩
          obtain ⟨Z, hZ⟩ : ∃ Z, (txtG (textR r)).s = Z := ⟨_, rfl⟩
          obtain ⟨E, hE⟩ : ∃ E, errV 42 (txtG (textR r)).e = E := ⟨_, rfl⟩
          unfold gotV agT at HTx ⊢
          rw [hT, hZ, hE] at HTx ⊢
          obtain ⟨n, hn⟩ : ∃ n, s.size = n := ⟨_, rfl⟩
          clear hl hl39 hT hZ hE HEv hd1 hq
          go_enter Tryz.func18, Tryz.ntmps18
          go_wp2_with fail
          refine (HLt.out _).mono ?_
          rintro e w1 ⟨rfl, hw⟩
          rw [← hw] at F0
          clear hw HLt
          go_wp2_with fail
          refine (HDg.out _).mono ?_
          rintro e w1 ⟨rfl, hw⟩
          rw [← hw] at F0
          clear hw HDg
          go_wp2_with fail
          refine (HPx.out _).mono ?_
          rintro e w2 ⟨rfl, hw⟩
          rw [← hw] at F0
          clear hw HPx
          go_wp2_with fail
          refine (HTx.out _ F0.out.2.2.1).mono ?_
          rintro e w3 ⟨rfl, hb3⟩
          have F3 := F0.out.on hb3
          clear hb3 F0 HTx
          obtain ⟨⟨r0, r1, r2, r3⟩, ⟨f0, f1, f2, f3⟩, hbw, hsz⟩ := F3
          go_wp2_with fail
          refine bodyPost_ret (v := .tuple #[.agg #[.int .i64 T.k, .string T.tx, .int .i64 T.n, .int .i64 T.p], .int .i64 Z, E]) ?_ rfl ⟨rfl, four_set hbw (w.heap.size) (by omega) _ _ _ _⟩
          simp [results, Tryz.results18, go_sem, r0, r1, r2, r3]
        · have HSg : Hid (∀ W, Calls Tryz.prog 33 #[.string s] W fun e w' => e = .returned (gotV (sgG (c :: r))) ∧ Below W.heap.size W w') := fun W => by
            rw [← hl]; exact sign_ s W h0 hs
          rw [decide_eq_false hq] at HPx
          rw [first_sg hb1 hb2 hq]
          show Calls _ _ _ _ fun e w' => e = .returned (gotV (sgG (c :: r))) ∧ _
          obtain ⟨T, hT⟩ : ∃ T, (sgG (c :: r)).t = T := ⟨_, rfl⟩
          obtain ⟨Z, hZ⟩ : ∃ Z, (sgG (c :: r)).s = Z := ⟨_, rfl⟩
          obtain ⟨E, hE⟩ : ∃ E, errV 42 (sgG (c :: r)).e = E := ⟨_, rfl⟩
          unfold gotV agT at HSg ⊢
          rw [hT, hZ, hE] at HSg ⊢
          obtain ⟨n, hn⟩ : ∃ n, s.size = n := ⟨_, rfl⟩
          clear hl hT hZ hE HEv hq
          go_enter Tryz.func18, Tryz.ntmps18
          go_wp2_with fail
          refine (HLt.out _).mono ?_
          rintro e w1 ⟨rfl, hw⟩
          rw [← hw] at F0
          clear hw HLt
          go_wp2_with fail
          refine (HDg.out _).mono ?_
          rintro e w1 ⟨rfl, hw⟩
          rw [← hw] at F0
          clear hw HDg
          go_wp2_with fail
          refine (HPx.out _).mono ?_
          rintro e w2 ⟨rfl, hw⟩
          rw [← hw] at F0
          clear hw HPx
          go_wp2_with fail
          refine (HSg.out _).mono ?_
          rintro e w3 ⟨rfl, hb3⟩
          have F3 := F0.out.on hb3
          clear hb3 F0 HSg
          obtain ⟨⟨r0, r1, r2, r3⟩, ⟨f0, f1, f2, f3⟩, hbw, hsz⟩ := F3
          go_wp2_with fail
          refine bodyPost_ret (v := .tuple #[.agg #[.int .i64 T.k, .string T.tx, .int .i64 T.n, .int .i64 T.p], .int .i64 Z, E]) ?_ rfl ⟨rfl, four_set hbw (w.heap.size) (by omega) _ _ _ _⟩
          simp [results, Tryz.results18, go_sem, r0, r1, r2, r3]
end Go.Proofs.YtfmpnakonffkcaaGreatDoor
