/- Prune. -/
import Derived.Test.YtagamkahfiackaaGreatDoorJ7
import Derived.Test.YtagamkahfiackaaGreatDoorVKeys
import Derived.Test.YtagamkahfiackaaGreatDoorVTDrop
namespace Go.Proofs.YtagamkahfiackaaGreatDoor
open Go.RowKit Go.Sort

/-- Behind Drop. -/
theorem drop_next {W w : World} {ps p : Nat} {M : Nat → Option Nd} {F : Nat → Prop} {l : List It} {rd : Nat → List MV} (hd : VnD W w ps p M F l rd) (hok : OkM (mdl rd l)) (hm : nVer (mdl rd l) ≤ 900000) (k : ByteArray) (hok' : OkM (del k (mdl rd l))) :
    Calls Tryz.prog 34 #[.pointer (some ⟨p, 0, none⟩), .string k] w fun e w' => (∃ t1 t2, e = .returned (.tuple #[t1, t2])) ∧ Hid (VnAt W w' ps (del k (mdl rd l)) ∧ AlienV w w') := by
  have hml := hok.len
  rw [mdl_len] at hml
  refine (tdrop_ hd.wk.st hd.tr (by omega) k).mono fun e w' ⟨e1, M', F', hk, ht⟩ => ⟨⟨_, _, e1⟩, ?_⟩
  have hH : VnH W w w ps p M F l (del k l) rd (del k (mdl rd l)) := by
    refine ⟨hd.wk, hd.tr, hd.lp, hd.ls, hd.bs, ⟨fun x hx => hd.ch.at' x (mem_del.1 hx).1, fun x hx y hy e => hd.ch.ap x (mem_del.1 hx).1 y (mem_del.1 hy).1 e⟩, ?_, AlienV.below (Below.refl _ _)⟩
    unfold mdl
    rw [mapV_del]
  exact hH.put hok' hk ht
/-- A copy of a chain's end, and the tree's Put behind it. -/
theorem clone_next {W X : World} {ps p : Nat} {M : Nat → Option Nd} {F : Nat → Prop} {l : List It} {rd : Nat → List MV} (hd : VnD W X ps p M F l rd) (hok : OkM (mdl rd l)) (hm : nVer (mdl rd l) ≤ 900000) (k : ByteArray) {v : Vl} (hv : v = (get k l).getD vz) {L : List MV} (hL : ChAt X W.heap.size v L) (hpv : pvs L = chM k (mdl rd l)) {g : Nat} (hg : v.a = some ⟨g, 0, none⟩) (i nn cc : Nat) (hi : i < L.length) (hnn : nn = L.length - i) (hok' : OkM (ins k ((chM k (mdl rd l)).drop i) (mdl rd l))) :
    Calls Tryz.prog 36 #[.slice (some ⟨g, i * 3, none⟩) nn cc] X (PutNext W X ps p k (ins k ((chM k (mdl rd l)).drop i) (mdl rd l))) := by
  have hlen := ch_le hok.srt k
  rw [← hpv, pvs_len] at hlen
  have hml := hok.len
  rw [mdl_len] at hml
  have hcells : ∀ j u, (cV (L.drop i))[j]? = some u → X.cell? ⟨g, i * 3 + j, none⟩ = some u := fun j u hj => by
    rw [← cV_drop, List.getElem?_drop] at hj
    obtain ⟨g', c', cur, e, hgb, _, _, _, hx⟩ := row_open hL.row (by omega)
    simp only [Value.slice.injEq] at e
    rw [hg] at e
    simp only [Option.some.injEq, Addr.mk.injEq] at e
    obtain ⟨⟨rfl, _⟩, _⟩ := e
    refine cell_of hgb ?_
    rw [← hx, List.getElem?_take] at hj
    split at hj
    · simpa using hj
    · cases hj
  refine (cloneV_ g (i * 3) nn cc (L.drop i) (by rw [List.length_drop]; exact hnn) (by omega) (by omega) hcells).mono ?_
  rintro e V1 ⟨g2, cap, hlo, rfl, hrow, hb⟩
  have hH := chain_turn hd k hv hL hrow (grown_below _ hb) (.inr hlo) (fun y hy => hL.rows y (List.mem_of_mem_drop hy))
  rw [show pvs (L.drop i) = (chM k (mdl rd l)).drop i by rw [← hpv]; simp [pvs, List.map_drop]] at hH
  refine ⟨g2, _, cap, rfl, cell_of hH.bs rfl, ?_⟩
  exact (tput_ hH.wk.st hH.tr (by omega) k ⟨some ⟨g2, 0, none⟩, (L.drop i).length, cap⟩).mono fun e V2 ⟨e1, M', F', hk, ht⟩ => ⟨⟨_, _, e1⟩, hH.put hok' hk ht⟩
set_option maxRecDepth 100000 in
set_option maxHeartbeats 4000000 in
theorem vprune_ {W w : World} {ps : Nat} {m : List Ct} (h : VnAt W w ps m) (hm : nVer m ≤ 90000) (t : Int) :
    Calls Tryz.prog 17 #[.pointer (some ⟨ps, 0, none⟩), .int .i64 t] w fun e w' => e = .returned (.int .i64 (prS t (m.map (·.1)) m).2) ∧ Hid (VnAt W w' ps (prM t m) ∧ AlienV w w') := by
  have hok := h.ok
  obtain ⟨ks, hks⟩ : ∃ ks, ks = m.map (·.1) := ⟨_, rfl⟩
  have HPM : Hid (prM t m = (prS t ks m).1) := by show _ = _; unfold prM; rw [hks]
  rw [← hks]
  have hkl : ks.length ≤ 90000 := by rw [hks, List.length_map]; have := hok.len; omega
  have HKy : Hid (∃ p, Calls Tryz.prog 22 #[.pointer (some ⟨ps, 0, none⟩)] w (fun e w' => e = .returned (.pointer (some ⟨p, 0, none⟩)) ∧ w' = w) ∧ Calls Tryz.prog 32 #[.pointer (some ⟨p, 0, none⟩)] w fun e w' => ∃ a c, e = .returned (.slice a ks.length c) ∧ Hid (RowS w' (.slice a ks.length c) ks ∧ Below w.heap.size w w')) := by
    obtain ⟨p, M, F, l, rd, hd, rfl⟩ := h.ex
    have hml := hok.len
    rw [mdl_len] at hml
    refine ⟨p, kept_ hd.bs, (tkeys_ hd.wk.st hd.tr (by omega)).mono fun e w' ⟨a, n, c, e1, hr, hb, _⟩ => ?_⟩
    have ek : ks = l.map (·.1) := by rw [hks]; simp [mdl, mapV]
    rw [← ek] at hr
    obtain ⟨a', c', e2, _⟩ := row_shape hr
    simp only [Value.slice.injEq] at e2
    obtain ⟨_, rfl, _⟩ := e2
    exact ⟨a, c, e1, hr, hb⟩
  have HV := Lib.hid h
  have HST : Hid (∀ i, OkM (prS t (ks.take i) m).1 ∧ nVer (prS t (ks.take i) m).1 + (prS t (ks.take i) m).2 = nVer m) := fun i => prS_ok hok t _
  have HMm := Lib.hid hm
  obtain ⟨p0, hk0, hk1⟩ := HKy.out
  have HK := Lib.hid hk0
  have HKs := Lib.hid hk1
  obtain ⟨kn, hkn⟩ : ∃ kn, kn = ks.length := ⟨_, rfl⟩
  rw [← hkn] at HKs hkl
  have HKn := Lib.hid hkn
  clear h hok hks HKy hk0 hk1 hm hkn
  go_enter Tryz.func17, Tryz.ntmps17
  go_wp2_with (first
    | (go_at_call 22; refine HK.out.mono ?_; rintro e w' ⟨rfl, rfl⟩; clear HK)
    | (go_at_call 32; refine HKs.out.mono ?_; rintro e w1 ⟨a, c, rfl, HRw⟩; clear HKs)
    | fail)
  have HV1 := Lib.hid (And.intro (HV.out.on HRw.out.2) (AlienV.below HRw.out.2))
  clear HV
  go_loopw [5, 15] (fun v5 v15 wr => ∃ i : Nat, v15 = .int .i64 i ∧ i ≤ kn ∧ v5 = .int .i64 (prS t (ks.take i) m).2 ∧ Hid (VnAt W wr ps (prS t (ks.take i) m).1 ∧ AlienV w1 wr)) (fun _ v15 _ => ((kn : Int) - intOf v15).toNat)
  case atStart => exact ⟨0, rfl, Nat.zero_le _, rfl, HV1.out.1, AlienV.below (Below.refl _ _)⟩
  case round =>
    obtain ⟨i, rfl, hi, rfl, HV⟩ := hrel
    by_cases hin : i < kn
    · obtain ⟨k, hk⟩ := getElem?_of_lt (show i < ks.length by have := HKn.out; omega)
      have hsn : ks.take (i + 1) = ks.take i ++ [k] := by rw [List.take_add_one, hk]; rfl
      have HSn : Hid (prS t (ks.take (i + 1)) m = (pr1 t k (prS t (ks.take i) m).1, (prS t (ks.take i) m).2 + unC (chM k (prS t (ks.take i) m).1) t)) := by show _ = _; rw [hsn, prS_snoc]
      have hkc : ∃ kb, a = some ⟨kb, 0, none⟩ ∧ wr.cell? ⟨kb, i, none⟩ = some (.string k) := by
        have hr := HRw.out.1
        have hkn2 := HKn.out
        obtain ⟨kb, cap, cur, e, hb, h1, h2, h3, hx⟩ := row_open hr (by omega)
        simp only [Value.slice.injEq] at e
        refine ⟨kb, e.1, ?_⟩
        have hb2 := HV.out.2.1 kb cur 9 hb (by decide) (by decide) (by decide) (by decide) (by decide)
        refine cell_of hb2 ?_
        have hj : (cS ks)[i]? = some (.string k) := by simp [cS, hk]
        rw [← hx, List.getElem?_take] at hj
        split at hj
        · simpa using hj
        · cases hj
      obtain ⟨kb, rfl, hkc⟩ := hkc
      obtain ⟨hmi, hni⟩ := HST.out i
      have hst := HST.out (i + 1)
      rw [HSn.out] at hst
      simp only at hst
      obtain ⟨q, hq⟩ : ∃ q, q = (prS t (ks.take i) m).2 := ⟨_, rfl⟩
      rw [← hq] at HSn hst ⊢
      clear hq
      generalize (prS t (ks.take i) m).1 = mi at *
      obtain ⟨p, M, F, l, rd, hd, rfl⟩ := HV.out.1.ex
      have hmi9 : nVer (mdl rd l) ≤ 900000 := by have := HMm.out; omega
      obtain ⟨v, L, b, hv, hL, hpv, hL9, hg, _⟩ := vput_ask hd hmi hmi9 k
      have hu := un_le (chM k (mdl rd l)) t
      have hasc := hmi.ch k
      rw [← hpv] at hu hasc
      have HU : Hid (∀ V, Below wr.heap.size wr V → Calls Tryz.prog 33 #[.slice v.a v.n v.c, .int .i64 t] V fun e w' => e = .returned (.int .i64 (unC (pvs L) t)) ∧ Below wr.heap.size wr w') := fun V hV => by
        obtain ⟨s1, s2, _⟩ := hL.row.shape
        exact (unseen_ s1 (s2.on hV) (by omega) hasc t).mono fun e w' ⟨e1, e2⟩ => ⟨e1, below_step hV e2⟩
      rw [pvs_len] at hu
      have hvn : v.n = L.length := hL.row.shape.1
      rw [← hpv] at HSn hst
      obtain ⟨u, hue⟩ : ∃ u, u = unC (pvs L) t := ⟨_, rfl⟩
      rw [← hue] at HU HSn hst hu
      have hqu : q + u ≤ 90000 := by have := HMm.out; omega
      have hwq := wraps_i64 ((q : Int) + (u : Int)) (by omega) (by omega)
      have HG := Lib.hid hg
      have HBs : Hid (∀ V, Below wr.heap.size wr V → V.cell? ⟨ps, 0, none⟩ = some (.pointer (some ⟨p, 0, none⟩))) := fun V hV => cell_of (hd.on hV).bs rfl
      have c0 := HBs.out wr (Below.refl _ _)
      rw [← hvn] at hu
      by_cases hul : u = v.n
      · have HDr : Hid (∀ V, Below wr.heap.size wr V → Calls Tryz.prog 34 #[.pointer (some ⟨p, 0, none⟩), .string k] V fun e w' => (∃ t1 t2, e = .returned (.tuple #[t1, t2])) ∧ Hid (VnAt W w' ps (prS t (ks.take (i + 1)) m).1 ∧ AlienV w1 w')) := fun V hV => by
          have e1 : pr1 t k (mdl rd l) = del k (mdl rd l) := by
            unfold pr1
            rw [if_pos (by rw [← hpv, ← hue, hul, hvn, pvs_len])]
          have := drop_next (hd.on hV) hmi hmi9 k (by rw [← e1]; exact hmi.pr1 t k)
          refine this.mono fun e w' ⟨e2, h3⟩ => ⟨e2, ?_, (HV.out.2.trans (AlienV.below hV)).trans h3.out.2⟩
          rw [HSn.out, e1]
          exact h3.out.1
        have HQ : Hid ((q + u : Nat) = (prS t (ks.take (i + 1)) m).2) := by show _ = _; rw [HSn.out]
        have heq : ((u : Int) == (v.n : Int)) = true := by simp [hul]
        clear HSn hst hv hL hpv hg hd hmi hasc hvn hue hL9 hni hk hsn HV hul hu hmi9
        go_wp2_with (first
          | (go_at_call 23; refine HG.out.mono ?_; rintro e w3 ⟨rfl, hb3⟩; have HB3 := Lib.hid hb3; clear hb3 HG)
          | (go_at_call 33; refine (HU.out _ HB3.out).mono ?_; rintro e w4 ⟨rfl, hb4⟩; have HB4 := Lib.hid hb4; have c4 := HBs.out _ hb4; clear hb4 HU)
          | (go_at_call 34; refine (HDr.out _ HB4.out).mono ?_; rintro e w5 ⟨⟨t1, t2, rfl⟩, HF⟩; clear HDr)
          | fail)
        go_roundw
        case measure => first | omega | (simp [intOf]; omega)
        case rel => exact ⟨i + 1, by simp, hin, by rw [← HQ.out]; simp, HF.out⟩
      · have hne : ((u : Int) == (v.n : Int)) = false := by simp; omega
        have hul2 : u < v.n := by omega
        rcases Nat.eq_zero_or_pos u with hu0 | hup
        · have e1 : pr1 t k (mdl rd l) = mdl rd l := by
            unfold pr1
            rw [← hpv, ← hue, pvs_len, ← hvn, if_neg hul, if_neg (by omega)]
          have HF : Hid (∀ V, Below wr.heap.size wr V → VnAt W V ps (prS t (ks.take (i + 1)) m).1 ∧ AlienV w1 V) := fun V hV => ⟨by rw [HSn.out, e1]; exact HV.out.1.on hV, HV.out.2.trans (AlienV.below hV)⟩
          have HQ : Hid ((q + u : Nat) = (prS t (ks.take (i + 1)) m).2) := by show _ = _; rw [HSn.out]
          have hu0' : ¬ (u : Int) > 0 := by omega
          clear HSn hst hv hL hpv hg hd hmi hasc hvn hue hL9 hni hk hsn HV hul hu hmi9 e1 hu0
          go_wp2_with (first
            | (go_at_call 23; refine HG.out.mono ?_; rintro e w3 ⟨rfl, hb3⟩; have HB3 := Lib.hid hb3; clear hb3 HG)
            | (go_at_call 33; refine (HU.out _ HB3.out).mono ?_; rintro e w4 ⟨rfl, hb4⟩; have HB4 := Lib.hid hb4; clear hb4 HU)
            | fail)
          go_roundw
          case measure => first | omega | (simp [intOf]; omega)
          case rel => exact ⟨i + 1, by simp, hin, by rw [← HQ.out]; simp, HF.out _ HB4.out⟩
        · have e1 : pr1 t k (mdl rd l) = ins k ((chM k (mdl rd l)).drop u) (mdl rd l) := by
            unfold pr1
            rw [← hpv, ← hue, pvs_len, ← hvn, if_neg hul, if_pos hup]
          obtain ⟨g, hga⟩ : ∃ g, v.a = some ⟨g, 0, none⟩ := by
            cases hgk : get k l with
            | none =>
              rw [hgk] at hv
              have : v.n = 0 := by rw [hv]; rfl
              omega
            | some z =>
              obtain ⟨g, eg, _⟩ := hd.ch.at' (k, z) (get_mem hgk)
              exact ⟨g, by rw [hv, hgk]; exact eg⟩
          have hcap : v.n ≤ v.c := by
            obtain ⟨a', c', e2, _, _, h3, _⟩ := row_shape hL.row
            simp only [Value.slice.injEq] at e2
            omega
          have HW : Hid (∀ X, Below wr.heap.size wr X → Calls Tryz.prog 36 #[.slice (some ⟨g, u * 3, none⟩) (v.n - u) (v.c - u)] X (PutNext W X ps p k (prS t (ks.take (i + 1)) m).1)) := fun X hX => by
            have := clone_next (hd.on hX) hmi hmi9 k hv ⟨row_on hL.row hX, hL.lo, fun y hy => ⟨(hL.rows y hy).1.on hX, (hL.rows y hy).2⟩⟩ hpv hga u (v.n - u) (v.c - u) (by omega) (by omega) (by rw [← e1]; exact hmi.pr1 t k)
            rw [HSn.out, e1]
            exact this
          have HAl : Hid (∀ X, Below wr.heap.size wr X → AlienV w1 X) := fun X hX => HV.out.2.trans (AlienV.below hX)
          have HQ : Hid ((q + u : Nat) = (prS t (ks.take (i + 1)) m).2) := by show _ = _; rw [HSn.out]
          have hup' : (u : Int) > 0 := by omega
          have hulc : ¬ v.c = u := by omega
          have hulc2 : u ≤ v.c := by omega
          have hun2 : (u : Int) ≤ v.n := by omega
          clear HSn hst hv hL hpv hg hd hmi hasc hvn hue hL9 hni hk hsn HV hul hu hmi9 e1
          obtain ⟨va, vn, vc⟩ := v
          simp only at *
          subst hga
          go_wp2_with (first
            | (go_at_call 23; refine HG.out.mono ?_; rintro e w3 ⟨rfl, hb3⟩; have HB3 := Lib.hid hb3; clear hb3 HG)
            | (go_at_call 33; refine (HU.out _ HB3.out).mono ?_; rintro e w4 ⟨rfl, hb4⟩; have HB4 := Lib.hid hb4; clear hb4 HU)
            | fail)
          have HX := Lib.hid (HW.out w4.drew (below_step HB4.out (below_drew w4)))
          have HA4 := Lib.hid (HAl.out w4.drew (below_step HB4.out (below_drew w4)))
          have c4 := HBs.out w4 HB4.out
          clear HW HAl
          refine wp_region_noPanic ?_
          refine region_ph (A := fun _ => True) (e1 := 99) (B := fun _ => True) (e2 := 9) (C := fun V => V.cell? ⟨ps, 0, none⟩ = some (.pointer (some ⟨p, 0, none⟩))) (by kernel_rfl) ⟨trivial, fun _ => trivial, fun _ => c4⟩ (fun hSt => ?_)
          refine take_ph 0 (.pointer (some ⟨ps, 0, none⟩)) [] rfl (by kernel_rfl) (fun _ _ _ h => h) (Or.inl ⟨by rfl, ?_⟩) hSt (fun hSn => ?_)
          · intro V _; go_simp
          clear hSt; rename Ph _ _ _ _ _ _ _ => hSt
          simp only [Act.put, List.setIfInBounds_toArray, List.set_cons_zero, List.set_cons_succ]
          refine take_ph 1 (.pointer (some ⟨ps, 0, none⟩)) [] rfl (by kernel_rfl) (fun _ _ _ h => h) (Or.inl ⟨by rfl, ?_⟩) hSt (fun hSn => ?_)
          · intro V _; go_simp
          clear hSt; rename Ph _ _ _ _ _ _ _ => hSt
          simp only [Act.put, List.setIfInBounds_toArray, List.set_cons_zero, List.set_cons_succ]
          refine take_ph 2 (.pointer (some ⟨ps, 0, none⟩)) [] rfl (by kernel_rfl) (fun _ _ _ h => h) (Or.inl ⟨by rfl, ?_⟩) hSt (fun hSn => ?_)
          · intro V _; go_simp
          clear hSt; rename Ph _ _ _ _ _ _ _ => hSt
          simp only [Act.put, List.setIfInBounds_toArray, List.set_cons_zero, List.set_cons_succ]
          refine take_ph 3 (.pointer (some ⟨p, 0, none⟩)) [9] rfl (by kernel_rfl) (fun _ _ _ h => h) (Or.inl ⟨by rfl, ?_⟩) hSt (fun hSn => ?_)
          · rintro V ⟨_, hB, hC⟩; have e0 := hC (by decide); clear hB hC; go_simp
          clear hSt; rename Ph _ _ _ _ _ _ _ => hSt
          simp only [Act.put, List.setIfInBounds_toArray, List.set_cons_zero, List.set_cons_succ]
          refine take_ph 4 (.string k) [] rfl (by kernel_rfl) (fun _ _ _ h => h) (Or.inl ⟨by rfl, ?_⟩) hSt (fun hSn => ?_)
          · intro V _; go_simp
          clear hSt; rename Ph _ _ _ _ _ _ _ => hSt
          simp only [Act.put, List.setIfInBounds_toArray, List.set_cons_zero, List.set_cons_succ]
          refine take_ph 5 (.slice (some ⟨g, 0, none⟩) vn vc) [] rfl (by kernel_rfl) (fun _ _ _ h => h) (Or.inl ⟨by rfl, ?_⟩) hSt (fun hSn => ?_)
          · intro V _; go_simp
          clear hSt; rename Ph _ _ _ _ _ _ _ => hSt
          simp only [Act.put, List.setIfInBounds_toArray, List.set_cons_zero, List.set_cons_succ]
          refine take_ph 6 (.int .i64 u) [] rfl (by kernel_rfl) (fun _ _ _ h => h) (Or.inl ⟨by rfl, ?_⟩) hSt (fun hSn => ?_)
          · intro V _; go_simp
          clear hSt; rename Ph _ _ _ _ _ _ _ => hSt
          simp only [Act.put, List.setIfInBounds_toArray, List.set_cons_zero, List.set_cons_succ]
          refine take_ph 7 (.slice (some ⟨g, u * 3, none⟩) (vn - u) (vc - u)) [] rfl (by kernel_rfl) (fun _ _ _ h => h) (Or.inl ⟨by rfl, ?_⟩) hSt (fun hSn => ?_)
          · intro V _; go_simp
          clear hSt; rename Ph _ _ _ _ _ _ _ => hSt
          simp only [Act.put, List.setIfInBounds_toArray, List.set_cons_zero, List.set_cons_succ]
          refine ready_call_ph 8 rfl (by kernel_rfl) (fun KK hK => ?_)
          go_simp
          go_wp2_with (first | (go_at_call 36; refine HX.out.mono ?_; rintro e V1 ⟨g2, nn, cap, rfl, d1, HP⟩))
          refine hK.out _ _ ?_ (fun hSn => ?_)
          · exact ⟨trivial, fun _ => trivial, fun _ => d1⟩
          clear hK KK hSt; rename Ph _ _ _ _ _ _ _ => hSt
          refine ready_call_ph 9 rfl (by kernel_rfl) (fun KK hK => ?_)
          go_simp
          go_wp2_with (first | (go_at_call 35; refine HP.out.mono ?_; rintro e V2 ⟨⟨t1, t2, rfl⟩, HF⟩))
          refine hK.out _ _ ?_ (fun hSn => ?_)
          · exact ⟨trivial, fun _ => trivial, fun h => absurd (show true = false from h) (by decide)⟩
          clear hK KK hSt; rename Ph _ _ _ _ _ _ _ => hSt
          refine done_ph (by kernel_rfl) ?_ _
          clear hSt
          refine NoPanic.normal ?_
          go_wp2_with fail
          go_roundw
          case measure => first | omega | (simp [intOf]; omega)
          case rel => exact ⟨i + 1, by simp, hin, by rw [← HQ.out]; simp, HF.out.1, HA4.out.trans HF.out.2⟩
    · obtain rfl : kn = i := by omega
      have het : ks.take kn = ks := by rw [HKn.out]; exact List.take_length
      go_wp2_with fail
      go_ret
      rw [HPM.out]
      rw [het] at HV ⊢
      exact ⟨rfl, HV.out.1, HV1.out.2.trans HV.out.2⟩
end Go.Proofs.YtagamkahfiackaaGreatDoor
