/- The walk of the law LatticeOrder at labels that make a lattice. -/
import Derived.Test.YtoompephogamaaaDoorOrderWalk
namespace Go.Proofs.YtoompephogamaaaDoor
open Go.RowKit Go.Sort

theorem mem_take_succ {us : List Nat} {t i : Nat} (h : t < us.length) : decide (i ∈ us.take (t + 1)) = (decide (i ∈ us.take t) || decide (us.getD t 0 = i)) := by
  rw [List.take_succ_eq_append_getElem h, List.getD_eq_getElem?_getD, List.getElem?_eq_getElem h, Bool.eq_iff_iff]
  simp only [decide_eq_true_eq, List.mem_append, List.mem_singleton, Bool.or_eq_true, Option.getD_some]
  constructor
  · rintro (h | h)
    · exact .inl h
    · exact .inr h.symm
  · rintro (h | h)
    · exact .inl h
    · exact .inr h.symm

set_option maxHeartbeats 4000000 in
set_option maxRecDepth 100000 in
theorem order_yes (a : Option Addr) (c : Nat) (ls : List Lab) (w : World) (h : LabsIn w a ls) (hw : allW ls) (hn : ls.length * 16 ≤ 140737488355328) (he : newErr ls = 0) :
    Calls Tryd.prog 4 #[.slice a ls.length c] w fun e w' => e = .returned (.bool true) ∧ Below w.heap.size w w' := by
  obtain ⟨h0, h16, hok, hd⟩ := newErr_zero he
  have HT := Lib.hid (twin_ a c ls w h hn (fun e => by omega))
  have hNEW : ∀ (a : Option Addr) (c : Nat) (W : World), LabsIn W a ls → Calls Tryd.prog 5 #[.slice a ls.length c] W fun e w' => Below W.heap.size W w' ∧ ∃ q, e = .returned (.tuple #[.pointer (some ⟨q, 0, none⟩), .nilIface]) ∧ LatIn w' (.pointer (some ⟨q, 0, none⟩)) ls := fun a c W hh => (new_ a c ls W hh hw).mono fun e w' => by
    rintro ⟨hb, p, er, he', ⟨h1, _⟩ | ⟨_, h1, q, h2, h3⟩⟩
    · exact absurd he h1
    · subst h1 h2
      exact ⟨hb, q, he', h3⟩
  have HNEW := Lib.hid hNEW
  have hORD : ∀ (v : Value) (W : World), LatIn W v ls → Calls Tryd.prog 9 #[v] W fun e w' => ∃ a' c', e = .returned (.slice a' ls.length c') ∧ IntsIn w' a' (orderL ls) ∧ Below W.heap.size W w' := fun v W hh => by
    have := order_ v ls W hh hw hd h16
    rw [order_len hw hd] at this
    exact this
  have HORD := Lib.hid hORD
  have HG := Lib.hid (good_order hw hd)
  have HBEL : Hid (∀ (v : Value) (i : Nat) (W : World), LatIn W v ls → Calls Tryd.prog 8 #[v, .int .i64 i] W fun e w' => ∃ a' c', e = .returned (.slice a' (belowL ls i).length c') ∧ IntsIn w' a' (belowL ls i) ∧ Below W.heap.size W w') := fun v i W hh => below_ v i ls W hh hw h16
  have HABO : Hid (∀ (v : Value) (i : Nat) (W : World), LatIn W v ls → Calls Tryd.prog 14 #[v, .int .i64 i] W fun e w' => ∃ a' c', e = .returned (.slice a' (aboveL ls i).length c') ∧ IntsIn w' a' (aboveL ls i) ∧ Below W.heap.size W w') := fun v i W hh => above_ v i ls W hh hw h16
  have HDOM : Hid (∀ (i j : Nat) (W : World), Calls Tryd.prog 19 #[.agg #[.int .i64 (lab ls i).1, .int .u32 (lab ls i).2], .agg #[.int .i64 (lab ls j).1, .int .u32 (lab ls j).2]] W fun e w' => e = .returned (.bool (dm (lab ls i) (lab ls j))) ∧ Below W.heap.size W w') := fun i j W => lDom_ _ _ W (lab_lt hw i) (lab_lt hw j)
  have HLABS : Hid (∀ W, Below w.heap.size w W → LabsIn W a ls) := fun W hW => h.on hW
  have HBL : Hid (∀ i : Nat, (belowL ls i).length ≤ ls.length) := fun i => below_len ls i
  have HAL : Hid (∀ i : Nat, (aboveL ls i).length ≤ ls.length) := fun i => upTo_len _ _
  have HBM : Hid (∀ i x : Nat, x ∈ belowL ls i → (x < ls.length ∧ dm (lab ls i) (lab ls x) = true) ∧ i ∈ aboveL ls x) := fun i x hx => by
    have := mem_below.1 hx
    exact ⟨⟨(domAt_nat.1 this).1.2, (domAt_nat.1 this).2⟩, mem_above.2 this⟩
  clear hNEW hORD h hok hd he
  obtain ⟨os, hos⟩ : ∃ os, orderL ls = os := ⟨_, rfl⟩
  rw [hos] at HORD HG
  clear hos hw hn
  obtain ⟨n, hnn⟩ : ∃ n, ls.length = n := ⟨_, rfl⟩
  have HNN := Lib.hid hnn
  have HOL : Hid (os.length = n) := hnn ▸ HG.out.len
  have HOLT : Hid (∀ i, i < n → os.getD i 0 < n) := hnn ▸ HG.out.lt
  have HOO : Hid (∀ k i, k < i → i < n → os.getD k 0 ≠ os.getD i 0) := hnn ▸ HG.out.once
  have HOB : Hid (∀ k i, k < i → i < n → dm (lab ls (os.getD k 0)) (lab ls (os.getD i 0)) = false) := hnn ▸ HG.out.behind
  have HLAB2 : Hid (∀ W, Below w.heap.size w W → ∀ i, i < n → ∃ b o, a = some ⟨b, o, none⟩ ∧ W.cell? ⟨b, o + i * 2, none⟩ = some (.int .i64 (lab ls i).1) ∧ W.cell? ⟨b, o + i * 2 + 1, none⟩ = some (.int .u32 (lab ls i).2)) := fun W hW i hi => HLABS.out W hW i (hnn ▸ hi)
  rw [hnn] at h0 h16 HT HNEW HORD HBL HAL HBM ⊢
  clear hnn HG
  go_enter Tryd.func4, Tryd.ntmps4
  go_wp2_with fail
  refine HT.out.mono ?_
  rintro e w1 ⟨a1, c1, rfl, hin1, hb1⟩
  have HN1 := Lib.hid (HNEW.out a1 c1 w1 hin1)
  clear hin1 HT
  go_wp2_with fail
  refine HN1.out.mono ?_
  rintro e w2 ⟨hb2, q, rfl, hl2⟩
  have HL2 := Lib.hid hl2
  clear hl2 HN1
  go_wp2_with fail
  refine (HORD.out _ w2 HL2.out).mono ?_
  rintro e w3 ⟨a3, c3, rfl, hin3, hb3⟩
  have hbw3 : Below w.heap.size w w3 := hb1.trans ((hb2.trans (hb3.mono hb2.size)).mono hb1.size)
  have HL3 := Lib.hid (HL2.out.on hb3)
  have HO3 : Hid (∀ W, Below w3.heap.size w3 W → ∀ i, i < n → ∃ b o, a3 = some ⟨b, o, none⟩ ∧ W.cell? ⟨b, o + i, none⟩ = some (.int .i64 (os.getD i 0 : Nat))) := fun W hW i hi => (hin3.on hW) i (by rw [HOL.out]; exact hi)
  clear hin3 HL2 hb1 hb2 hb3 HORD HNEW
  go_wp2_with fail
  go_loopw [6] (fun iv wr => ∃ k : Nat, k ≤ n ∧ iv = .int .i64 k ∧ Below w3.heap.size w3 wr) (fun iv _ => n - (intOf iv).toNat)
  case atStart => exact ⟨0, Nat.zero_le _, rfl, Below.refl _ _⟩
  case round =>
    obtain ⟨k, hk, rfl, hbk⟩ := hrel
    rename World => W1
    by_cases hlt : k < n
    · obtain ⟨b3, o3, rfl, ck⟩ := HO3.out W1 hbk k hlt
      obtain ⟨z, hz⟩ : ∃ z, z = os.getD k 0 := ⟨_, rfl⟩
      have hzn : z < n := by rw [hz]; exact HOLT.out k hlt
      rw [← hz] at ck
      have HZ := Lib.hid hz
      clear hz
      go_wp2_with fail
      go_loopw [7] (fun kv wq => ∃ m : Nat, m ≤ k ∧ kv = .int .i64 m ∧ Below w3.heap.size w3 wq) (fun kv _ => k - (intOf kv).toNat)
      case atStart => exact ⟨0, Nat.zero_le _, rfl, hbk⟩
      case round =>
        obtain ⟨m, hm, rfl, hbm⟩ := hrel
        by_cases hmk : m < k
        · obtain ⟨b3', o3', e', cm⟩ := HO3.out wr hbm m (by omega)
          obtain ⟨b3'', o3'', e'', ck'⟩ := HO3.out wr hbm k hlt
          simp only [Option.some.injEq, Addr.mk.injEq] at e' e''
          obtain ⟨rfl, rfl, _⟩ := e'
          obtain ⟨rfl, rfl, _⟩ := e''
          rw [← HZ.out] at ck'
          obtain ⟨x, hx⟩ : ∃ x, x = os.getD m 0 := ⟨_, rfl⟩
          have hxn : x < n := by rw [hx]; exact HOLT.out m (by omega)
          have hxz : ¬ x = z := by rw [hx, HZ.out]; exact HOO.out m k hmk hlt
          have hdm : dm (lab ls x) (lab ls z) = false := by rw [hx, HZ.out]; exact HOB.out m k hmk hlt
          rw [← hx] at cm
          clear hx
          have hbq : Below w.heap.size w wr := hbw3.trans (hbm.mono hbw3.size)
          obtain ⟨bl, ol, rfl, x1, x2⟩ := HLAB2.out wr hbq x hxn
          obtain ⟨bl', ol', e', z1, z2⟩ := HLAB2.out wr hbq z hzn
          simp only [Option.some.injEq, Addr.mk.injEq] at e'
          obtain ⟨rfl, rfl, _⟩ := e'
          have H19 : Hid (∀ W, Calls Tryd.prog 19 #[.agg #[.int .i64 (lab ls x).1, .int .u32 (lab ls x).2], .agg #[.int .i64 (lab ls z).1, .int .u32 (lab ls z).2]] W fun e w' => e = .returned (.bool false) ∧ Below W.heap.size W w') := fun W => hdm ▸ HDOM.out x z W
          generalize (lab ls x).1 = r1 at *
          generalize (lab ls x).2 = r2 at *
          generalize (lab ls z).1 = r3 at *
          generalize (lab ls z).2 = r4 at *
          have k0 := cell_regrown cm
          have k1 := cell_regrown ck'
          have k2 := cell_regrown x1
          have k3 := cell_regrown x2
          have k4 := cell_regrown z1
          have k5 := cell_regrown z2
          have hxzi : ¬ (x : Int) = (z : Int) := by omega
          have q1 : ((x : Int) == (z : Int)) = false := beq_false_of_ne hxzi
          have q3 : (x == z) = false := beq_false_of_ne hxz
          clear ck cm ck' x1 x2 z1 z2 hdm
          go_wp2_with fail
          refine wp_region_quiet_below (by kernel_rfl) (by kernel_rfl) ?_
          repeat (go_big_quiet_step (first | (go_at_call 19; exact Calls.regrown_of (H19.out _))))
          refine wpQuiet_nil ?_
          intro _ hw'
          obtain ⟨⟨dq, osq⟩, hw''⟩ := hw'
          subst hw''
          have hbz := hbm.trans ((below_regrown wr dq osq).mono hbm.size)
          generalize grow (redrawn wr dq) osq = W2 at *
          clear k0 k1 k2 k3 k4 k5
          go_wp2
          go_roundw
          case rel => exact ⟨m + 1, by omega, by go_num, hbz⟩
          case measure => simp [intOf]; omega
        · obtain rfl : m = k := by omega
          have HBEL' := Lib.hid (HBEL.out (.pointer (some ⟨q, 0, none⟩)) m wr (HL3.out.on hbm))
          have hbl := HBL.out m
          have HZM : Hid (∀ x : Nat, x ∈ belowL ls m → (x < n ∧ dm (lab ls m) (lab ls x) = true) ∧ m ∈ aboveL ls x) := HBM.out m
          clear hbk ck hm hmk
          generalize belowL ls m = zs at *
          go_wp2_with fail
          refine HBEL'.out.mono ?_
          rintro e W4 ⟨a4, c4, rfl, hin4, hb4⟩
          have HI4 := Lib.hid hin4
          have hb34 : Below w3.heap.size w3 W4 := hbm.trans (hb4.mono hbm.size)
          clear hin4 hb4 hbm HBEL'
          go_wp2_with fail
          go_loopw [9] (fun kv wq => ∃ t : Nat, t ≤ zs.length ∧ kv = .int .i64 t ∧ Below W4.heap.size W4 wq) (fun kv _ => zs.length - (intOf kv).toNat)
          case atStart => exact ⟨0, Nat.zero_le _, rfl, Below.refl _ _⟩
          case round =>
            obtain ⟨t, ht, rfl, hbt⟩ := hrel
            rename World => W5
            have hb35 : Below w3.heap.size w3 W5 := hb34.trans (hbt.mono hb34.size)
            by_cases htz : t < zs.length
            · obtain ⟨b4, o4, rfl, ct⟩ := HI4.out.on hbt t htz
              obtain ⟨x, hx⟩ : ∃ x, x = zs.getD t 0 := ⟨_, rfl⟩
              have hxm : x ∈ zs := by rw [hx]; exact get_mem htz
              obtain ⟨⟨hxn, hdm⟩, hma⟩ := HZM.out x hxm
              rw [← hx] at ct
              have HABO' := Lib.hid (HABO.out (.pointer (some ⟨q, 0, none⟩)) x W5 (HL3.out.on hb35))
              have hal := HAL.out x
              clear hx hxm
              obtain ⟨us, hus⟩ : ∃ us, aboveL ls x = us := ⟨_, rfl⟩
              rw [hus] at HABO' hal hma
              obtain ⟨d, hd⟩ : ∃ d : Nat → Bool, d = fun j => decide (m ∈ us.take j) := ⟨_, rfl⟩
              have HD0 : Hid (d 0 = false) := by unfold Hid; rw [hd]; simp
              have HDS : Hid (∀ j, j < us.length → d (j + 1) = (d j || decide (us.getD j 0 = m))) := fun j hj => by rw [hd]; exact mem_take_succ hj
              have HDT : Hid (d us.length = true) := by unfold Hid; rw [hd]; simp [hma]
              have HDM := Lib.hid hdm
              clear hus hma hd hdm
              go_wp2_with fail
              refine HABO'.out.mono ?_
              rintro e W6 ⟨a6, c6, rfl, hin6, hb6⟩
              have HI6 := Lib.hid hin6
              have hbt6 : Below W4.heap.size W4 W6 := hbt.trans (hb6.mono hbt.size)
              have hbw6 : Below w.heap.size w W6 := hbw3.trans ((hb35.trans (hb6.mono hb35.size)).mono hbw3.size)
              have ct6 := (hb6.cell (block_lt_of_cell ct)).trans ct
              clear hin6 ct HABO' hb6 hbt hb35
              go_wp2_with fail
              go_loop [10, 12] (fun hv nv => ∃ j : Nat, j ≤ us.length ∧ nv = .int .i64 j ∧ hv = .bool (d j)) (fun _ nv => us.length - (intOf nv).toNat)
              case atStart => exact ⟨0, Nat.zero_le _, rfl, by rw [HD0.out]⟩
              case round =>
                obtain ⟨j, hj, rfl, rfl⟩ := hrel
                by_cases hju : j < us.length
                · obtain ⟨b6, o6, rfl, cj⟩ := HI6.out j hju
                  obtain ⟨y, hy⟩ : ∃ y, y = us.getD j 0 := ⟨_, rfl⟩
                  rw [← hy] at cj
                  have HS := Lib.hid (HDS.out j hju)
                  have HY := Lib.hid hy
                  clear hy
                  cases hdj : d j
                  · by_cases hym : y = m
                    · have q1 : ((y : Int) == (m : Int)) = true := by rw [hym]; simp
                      have HN : Hid (d (j + 1) = true) := by unfold Hid; rw [HS.out, ← HY.out, hym]; simp
                      clear HS HY hym
                      go_wp2_with fail
                      exact ⟨⟨j + 1, by omega, by go_num, by rw [HN.out]⟩, by simp [intOf]; omega⟩
                    · have q1 : ((y : Int) == (m : Int)) = false := by simp; omega
                      have q2 : ¬ (y : Int) = (m : Int) := by omega
                      have HN : Hid (d (j + 1) = false) := by unfold Hid; rw [HS.out, ← HY.out, hdj]; simp [hym]
                      clear HS HY
                      go_wp2_with fail
                      exact ⟨⟨j + 1, by omega, by go_num, by rw [HN.out]⟩, by simp [intOf]; omega⟩
                  · have HN : Hid (d (j + 1) = true) := by unfold Hid; rw [HS.out, hdj]; simp
                    clear HS HY
                    go_wp2_with fail
                    exact ⟨⟨j + 1, by omega, by go_num, by rw [HN.out]⟩, by simp [intOf]; omega⟩
                · obtain rfl : j = us.length := by omega
                  have hdt := HDT.out
                  obtain ⟨bl, ol, rfl, x1, x2⟩ := HLAB2.out W6 hbw6 x hxn
                  obtain ⟨bl', ol', e', z1, z2⟩ := HLAB2.out W6 hbw6 m hlt
                  simp only [Option.some.injEq, Addr.mk.injEq] at e'
                  obtain ⟨rfl, rfl, _⟩ := e'
                  have H19 : Hid (∀ W, Calls Tryd.prog 19 #[.agg #[.int .i64 (lab ls m).1, .int .u32 (lab ls m).2], .agg #[.int .i64 (lab ls x).1, .int .u32 (lab ls x).2]] W fun e w' => e = .returned (.bool true) ∧ Below W.heap.size W w') := fun W => HDM.out ▸ HDOM.out m x W
                  generalize (lab ls x).1 = r1 at *
                  generalize (lab ls x).2 = r2 at *
                  generalize (lab ls m).1 = r3 at *
                  generalize (lab ls m).2 = r4 at *
                  have k0 := cell_regrown ct6
                  have k2 := cell_regrown x1
                  have k3 := cell_regrown x2
                  have k4 := cell_regrown z1
                  have k5 := cell_regrown z2
                  have q1 : decide ((x : Int) < 0) = false := by simp
                  have q2 : decide ((n : Int) ≤ (x : Int)) = false := by simp; omega
                  have q3 : decide (n ≤ x) = false := by simp; omega
                  clear ct6 x1 x2 z1 z2
                  go_wp2_with fail
                  refine wp_region_quiet_below (by kernel_rfl) (by kernel_rfl) ?_
                  repeat (go_big_quiet_step (first | (go_at_call 19; exact Calls.regrown_of (H19.out _))))
                  refine wpQuiet_nil ?_
                  intro _ hw'
                  obtain ⟨⟨dq, osq⟩, hw''⟩ := hw'
                  subst hw''
                  have hbz := hbt6.trans ((below_regrown W6 dq osq).mono hbt6.size)
                  generalize grow (redrawn W6 dq) osq = W7 at *
                  clear k0 k2 k3 k4 k5 q1 q2 q3
                  go_wp2
                  go_roundw
                  case rel => exact ⟨t + 1, by omega, by go_num, hbz⟩
                  case measure => simp [intOf]; omega
            · obtain rfl : t = zs.length := by omega
              go_wp2_with fail
              go_roundw
              case rel => exact ⟨m + 1, by omega, by go_num, hb35⟩
              case measure => simp [intOf]; omega
    · obtain rfl : k = n := by omega
      go_wp2_with fail
      refine (sure_ _).mono ?_
      rintro e w4 ⟨rfl, hb4⟩
      have hb5 : Below w.heap.size w w4 := hbw3.trans ((hbk.trans (hb4.mono hbk.size)).mono hbw3.size)
      go_wp2_with fail
      go_ret
      exact ⟨rfl, hb5⟩
end Go.Proofs.YtoompephogamaaaDoor
