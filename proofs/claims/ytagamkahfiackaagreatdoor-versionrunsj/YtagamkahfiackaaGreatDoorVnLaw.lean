/- The law, walked. -/
import Derived.Test.YtagamkahfiackaaGreatDoorVnLaw0
namespace Go.Proofs.YtagamkahfiackaaGreatDoor
open Go.RowKit Go.Sort Go.Shelf

attribute [local go_sem] Oper.semAt_some
set_option maxRecDepth 100000 in
set_option maxHeartbeats 8000000 in
theorem law_walk {w : World} {a : Option Addr} {c : Nat} {L : List ActV} (hL : ActsIn w a L) (hz : ∀ x ∈ L, x.row.size ≤ 140737488355328) (hg : ErrType w) (r : Rg) (t : Int) :
    Calls Tryz.prog 3 #[.slice a L.length c, rgV r, .int .i64 t] w fun e w' => e = .returned (.bool true) ∧ Below w.heap.size w w' := by
  obtain ⟨W1, hW1⟩ : ∃ W1, W1 = w.alloc (.cells #[.string r.f, .string r.t, .bool r.hf, .bool r.ht, .bool r.pf, .bool r.pt] 24) := ⟨_, rfl⟩
  have hB1 : Below w.heap.size w W1 := by rw [hW1]; exact below_alloc _ _
  have ho1 : W1.heap[w.heap.size]? = some (rgO r 24) := by rw [hW1]; exact new_blk _ _
  have HN := Lib.hid (vnew_ W1)
  have HC9 : Hid (∀ (i : Nat) x, L[i]? = some x → ∃ b o, a = some ⟨b, o, none⟩ ∧ x.row.size ≤ 140737488355328 ∧ ∀ V, Below w.heap.size w V → V.cell? ⟨b, o + i * 5, none⟩ = some (.int .i64 x.kd) ∧ V.cell? ⟨b, o + i * 5 + 1, none⟩ = some (.int .i64 x.tm) ∧ V.cell? ⟨b, o + i * 5 + 2, none⟩ = some (.string x.key) ∧ V.cell? ⟨b, o + i * 5 + 3, none⟩ = some (.string x.row) ∧ V.cell? ⟨b, o + i * 5 + 4, none⟩ = some (.bool x.gn)) := fun i x hi => by
    obtain ⟨b, o, e, hb, _⟩ := hL i x hi
    refine ⟨b, o, e, hz x (List.mem_of_getElem? hi), fun V hV => ?_⟩
    obtain ⟨b', o', e', _, h0, h1, h2, h3, h4⟩ := (hL.on hV) i x hi
    rw [e] at e'
    cases e'
    exact ⟨h0, h1, h2, h3, h4⟩
  have HX : Hid (∀ i, i < L.length → ∃ x, L[i]? = some x) := fun i hi => ⟨_, List.getElem?_eq_getElem hi⟩
  have HErr : Hid (ErrType W1) := hg.on hB1
  have HO := Lib.hid (And.intro hB1 ho1)
  clear hL hz hg hB1 ho1
  obtain ⟨ln, hln⟩ : ∃ ln, ln = L.length := ⟨_, rfl⟩
  rw [← hln] at HX ⊢
  obtain ⟨n, hn⟩ : ∃ n, n = if 100 < ln then 100 else ln := ⟨_, rfl⟩
  have hn1 : n ≤ 100 ∧ n ≤ ln ∧ (n = ln ∨ n = 100) := by rw [hn]; split <;> omega
  clear hn hln
  unfold rgV
  go_enter Tryz.func3, Tryz.ntmps3
  go_upto_region 1 with fail
  rw [← hW1]
  clear hW1
  generalize hb4 : w.heap.size = b4 at *
  have HB4 := Lib.hid hb4
  clear hb4
  go_wp2_with (first
    | (go_at_call 4; refine HN.out.mono ?_; rintro e w2 ⟨ps, rfl, H1⟩
       clear HN
       have hb4 := blkKeep H1.out.1.below HO.out.2
       obtain ⟨e0, e1, e2, e3, e4, e5⟩ := rgO_at hb4
       obtain ⟨V9, hst, hV9, hVb, _⟩ := store_row (N := w2.heap.size) (w := w2) (W := w2.alloc (.cells #[.string ⟨#[]⟩, .string ⟨#[]⟩, .bool false, .bool false, .bool false, .bool false] 28)) #[.string r.f, .string r.t, .bool r.hf, .bool r.ht, .bool r.pf, .bool r.pt] (new_blk w2 _) (by kernel_rfl) rfl (by simp [Value.oneCell']) (Nat.le_refl _) (below_alloc w2 _)
       have HI0 : Hid (LawI W1 w V9 ps w2.heap.size r 0 (.slice none 0 0)) := ⟨⟨[], [], ⟨H1.out.1.on hVb, World.ownsRow_nil _ _ _ _, rel_nil⟩, Nat.le_refl _⟩, hV9, by rw [HB4.out]; exact HO.out.1⟩
       clear hb4 hV9 hVb H1)
    | (refine wpList_store_at rfl _ _ _ rfl _ _ rfl rfl hst ?_; clear hst)
    | fail)
  clear e0 e1 e2 e3 e4 e5
  generalize w2.heap.size = b9 at *
  go_loopg [8, 10] n (fun kx v8 v10 wr => ∃ (i : Nat) (a' : Option Addr) (n' c' : Nat), v10 = .int .i64 i ∧ i ≤ n ∧ n - i ≤ kx ∧ v8 = .slice a' n' c' ∧ Hid (LawI W1 w wr ps b9 r i (.slice a' n' c')))
  case atStart => exact ⟨0, none, 0, 0, rfl, Nat.zero_le _, by omega, rfl, HI0⟩
  case round =>
    clear HI0
    obtain ⟨i, a', n', c', rfl, hi, hkx, rfl, HI⟩ := hrel
    by_cases hin : i < n
    · obtain ⟨x, hx⟩ := HX.out i (by omega)
      obtain ⟨kb, ko, rfl, hxz, hc9⟩ := HC9.out i x hx
      have HCx := Lib.hid (fun V (hV : Below w.heap.size w V) => hc9 V (by rw [HB4.out] at hV; exact hV))
      have HStep := Lib.hid (HI.out.step (by omega) HErr.out x hxz)
      have hwold := HI.out.old'
      rw [HB4.out] at hwold
      obtain ⟨c0, c1, c2, c3, c4⟩ := hc9 wr hwold
      have hlt : (i : Int) < (ln : Int) := by omega
      have hlt2 : (i : Int) < 100 := by omega
      have hiL := decide_eq_true (show i < ln by omega)
      have hw1 := wraps_i64 ((i : Int) + 1) (by omega) (by omega)
      clear hx hxz hc9 HC9 HX hwold HI
      obtain ⟨xk, xm, xy, xr, xg⟩ := x
      dsimp only at c0 c1 c2 c3 c4 HCx HStep
      go_wp2_with (first
        | (go_at_call 5; refine HStep.out.mono ?_; rintro e w1 ⟨a2, n2, c2', rfl, H1⟩
           obtain ⟨s, b, hsz, hget, hrget, hver⟩ := H1.out.asks (by omega) xy t
           have HGet := Lib.hid hget
           have HRGet := Lib.hid hrget
           have HVer := Lib.hid hver
           have hold := H1.out.old'
           obtain ⟨d0, d1, d2, d3, d4⟩ := HCx.out w1 hold
           clear c0 c1 c2 c3 c4 HStep hget hrget hver)
        | (go_at_call 6; refine (HGet.out w1 (Below.refl _ _)).mono ?_; rintro e w2 ⟨⟨qa, qn, qc⟩, rfl, H2⟩
           obtain ⟨f0, f1, f2, f3, f4⟩ := HCx.out w2 (below_step hold H2.out.2.2)
           have hqn : qn ≤ 140737488355328 := by have := H2.out.1.bytes.1; rw [bsN_len] at this; dsimp only at this; omega
           clear d0 d1 d2 d3 d4 HGet)
        | (go_at_call 7; refine (HRGet.out w2 H2.out.2.2).mono ?_; rintro e w3 ⟨rfl, hb3⟩
           have HB3 : Hid (Below w1.heap.size w1 w3) := below_step H2.out.2.2 hb3
           have HP3 := Lib.hid (H2.out.2.1.on hb3)
           have hcv : (convert 33 9 (.slice qa qn qc)).run Tryz.prog w3 = .ok (.string s) w3 := by
             have hr := H2.out.1.on hb3
             obtain ⟨r1, r2, r3⟩ := hr.bytes
             have := conv_ w3 qa qn qc (bsN s) r1 r2
             rw [bs_bsN] at this
             exact this
           have hss : (s.toList == s.toList) = true := by simp
           clear hb3 f0 f1 f2 f3 f4 HRGet hold)
        | (go_at_call 8; refine (HVer.out w3 HB3.out).mono ?_; rintro e w4 ⟨rfl, hb4⟩
           have HB5 : Hid (PlainAt w1.heap.size w4 qa qn ∧ Below w1.heap.size w1 w4) := ⟨HP3.out.on hb4, below_step HB3.out hb4⟩
           clear hb4 hcv HVer)
        | fail)
      clear HP3 HB3 H2
      go_loopg [17] qn (fun kx v17 wr => ∃ k : Nat, v17 = .int .i64 k ∧ k ≤ qn ∧ qn - k ≤ kx ∧ Hid (PlainAt w1.heap.size wr qa qn ∧ Below w1.heap.size w1 wr))
      case atStart => exact ⟨0, rfl, Nat.zero_le _, by omega, HB5⟩
      case round =>
        clear HB5
        obtain ⟨k, rfl, hk, hkk, HV⟩ := hrel
        by_cases hkn : k < qn
        · obtain ⟨g, x9, rfl, k1, k2, hP2, hB2⟩ := HV.out.1.set HV.out.2 hkn (.int .u8 63)
          have HV2 := Lib.hid (And.intro hP2 hB2)
          have hk1 : (k : Int) < (qn : Int) := by omega
          have hkL := decide_eq_true hkn
          have hw2 := wraps_i64 ((k : Int) + 1) (by omega) (by omega)
          clear hP2 hB2 HV hw1
          go_wp2_with fail
          go_roundg (qn - (k + 1))
          case measure => omega
          case rel => exact ⟨k + 1, by rw [show (k : Int) + 1 = ((k + 1 : Nat) : Int) by omega], by omega, Nat.le_refl _, HV2⟩
        · obtain rfl : k = qn := by omega
          have hge : ¬ (k : Int) < (k : Int) := by omega
          have HI2 := Lib.hid (H1.out.on HV.out.2)
          clear HV H1 HCx HErr
          go_wp2_with fail
          go_roundg (n - (i + 1))
          case measure => omega
          case rel => exact ⟨i + 1, a2, n2, c2', by rw [show (i : Int) + 1 = ((i + 1 : Nat) : Int) by omega], by omega, Nat.le_refl _, rfl, HI2⟩
    · obtain rfl : i = n := by omega
      have hold := HI.out.old'
      rw [HB4.out] at hold
      clear HX HC9 HErr
      obtain ⟨V8, hst, hV8, hVb, _⟩ := store_row (N := wr.heap.size) (w := wr) (W := wr.alloc (.cells #[.string ⟨#[]⟩, .string ⟨#[]⟩, .bool false, .bool false, .bool false, .bool false] 24)) #[.string ⟨#[]⟩, .string ⟨#[]⟩, .bool false, .bool false, .bool false, .bool false] (new_blk wr _) (by kernel_rfl) rfl (by simp [Value.oneCell']) (Nat.le_refl _) (below_alloc wr _)
      have hI8 := HI.out.on hVb
      have h9 : V8.heap[b9]? = some (rgO r 28) := hI8.rg
      have h4 : V8.heap[b4]? = some (rgO r 24) := by
        obtain ⟨_, _, hb, _⟩ := hI8.both
        exact blkKeep hb.vn.below HO.out.2
      have HKp : Hid (∀ V, Below V8.heap.size V8 V → (RgAt V b9 r ∧ RgAt V b4 r ∧ RgAt V wr.heap.size r00) ∧ Below V8.heap.size V8 V) := fun V hV => ⟨⟨rgO_at (blkKeep hV h9), rgO_at (blkKeep hV h4), rgO_at (r := r00) (blkKeep hV hV8)⟩, hV⟩
      have HBw : Hid (Below w.heap.size w V8) := hI8.old'
      obtain ⟨P, P0, cb, hP1, hP2, hq1, hq2, hq3, hq4, hq5, hq6⟩ := hI8.last (by omega) t
      have HQ1 := Lib.hid hq1
      have HQ2 := Lib.hid hq2
      have HQ3 := Lib.hid hq3
      have HQ4 := Lib.hid hq4
      have HQ5 := Lib.hid hq5
      have HQ6 := Lib.hid hq6
      have HSu : Hid (∀ V, Calls Tryz.prog 15 #[] V fun e w' => e = .returned (.bool true) ∧ Below V.heap.size V w') := fun V => sure_ V
      clear hI8 h9 h4 hV8 hVb HI HO hq1 hq2 hq3 hq4 hq5 hq6 hold
      generalize hb8 : wr.heap.size = b8 at *
      unfold RgAt r00 at HKp
      unfold rgV r00 at HQ6
      unfold rgV at HQ1 HQ2 HQ3 HQ4
      dsimp only at HKp HQ6
      rcases Nat.lt_or_ge i ln with hiln | hiln
      · have hh1 : (i : Int) < (ln : Int) := by omega
        have hh2 : ¬ (i : Int) < 100 := by omega
        go_wp2_with (first | (refine wpList_store_at rfl _ _ _ rfl _ _ rfl rfl hst ?_; clear hst) | fail)
        refine wp_region_noPanic ?_
        go_region_held (fun V => ((V.cell? ⟨b9, 0, none⟩ = some (.string r.f) ∧ V.cell? ⟨b9, 1, none⟩ = some (.string r.t) ∧ V.cell? ⟨b9, 2, none⟩ = some (.bool r.hf) ∧ V.cell? ⟨b9, 3, none⟩ = some (.bool r.ht) ∧ V.cell? ⟨b9, 4, none⟩ = some (.bool r.pf) ∧ V.cell? ⟨b9, 5, none⟩ = some (.bool r.pt)) ∧ (V.cell? ⟨b4, 0, none⟩ = some (.string r.f) ∧ V.cell? ⟨b4, 1, none⟩ = some (.string r.t) ∧ V.cell? ⟨b4, 2, none⟩ = some (.bool r.hf) ∧ V.cell? ⟨b4, 3, none⟩ = some (.bool r.ht) ∧ V.cell? ⟨b4, 4, none⟩ = some (.bool r.pf) ∧ V.cell? ⟨b4, 5, none⟩ = some (.bool r.pt)) ∧ (V.cell? ⟨b8, 0, none⟩ = some (.string ⟨#[]⟩) ∧ V.cell? ⟨b8, 1, none⟩ = some (.string ⟨#[]⟩) ∧ V.cell? ⟨b8, 2, none⟩ = some (.bool false) ∧ V.cell? ⟨b8, 3, none⟩ = some (.bool false) ∧ V.cell? ⟨b8, 4, none⟩ = some (.bool false) ∧ V.cell? ⟨b8, 5, none⟩ = some (.bool false))) ∧ Below V8.heap.size V8 V)
          (first | (exact HKp.out _ (below_drew _)) | (exact HKp.out _ (below_step (by assumption : (_ ∧ _ ∧ _) ∧ Below V8.heap.size V8 _).2 (by assumption))) | assumption)
          (first
            | (go_at_call 10; refine (HQ1.out _ (by assumption : (_ ∧ _ ∧ _) ∧ Below V8.heap.size V8 _).2).mono ?_; rintro e u1 ⟨ra, rc, Z, rfl, HR⟩; have hbR := HR.out.2.2.2; clear HQ1)
            | (go_at_call 9; refine (items_on HR.out.1 HR.out.2.1 HR.out.2.2.1 HS.out.1 hP1 (by first | exact Below.refl _ _ | exact hbS) (by first | exact Below.refl _ _ | exact hbR)).mono ?_; rintro e u3 ⟨rfl, hb3⟩)
            | (go_at_call 11; refine (HQ2.out _ (by assumption : (_ ∧ _ ∧ _) ∧ Below V8.heap.size V8 _).2).mono ?_; rintro e u2 ⟨sa, sc, rfl, HS⟩; have hbS := HS.out.2; clear HQ2)
            | (go_at_call 12; refine (HQ3.out _ (by assumption : (_ ∧ _ ∧ _) ∧ Below V8.heap.size V8 _).2).mono ?_; rintro e u4 ⟨rfl, hb4'⟩; clear HQ3)
            | (go_at_call 13; refine (HQ4.out _ (by assumption : (_ ∧ _ ∧ _) ∧ Below V8.heap.size V8 _).2).mono ?_; rintro e u5 ⟨rfl, hb5⟩; clear HQ4)
            | (go_at_call 14; refine (HQ5.out _ (by assumption : (_ ∧ _ ∧ _) ∧ Below V8.heap.size V8 _).2).mono ?_; rintro e u6 ⟨rfl, hb6⟩; clear HQ5)
            | (go_at_call 11; refine (HQ6.out _ (by assumption : (_ ∧ _ ∧ _) ∧ Below V8.heap.size V8 _).2).mono ?_; rintro e u7 ⟨ta, tc, rfl, HS2⟩; have hbS2 := HS2.out.2; clear HQ6)
            | (go_at_call 15; refine (HSu.out _).mono ?_; rintro e u8 ⟨rfl, hb8'⟩; clear HSu)
            | fail)
        all_goals (
          refine NoPanic.normal ?_
          go_wp2_with fail
          go_ret
          exact ⟨rfl, below_step HBw.out (by assumption : (_ ∧ _ ∧ _) ∧ Below V8.heap.size V8 _).2⟩)
      · have hh1 : ¬ (i : Int) < (ln : Int) := by omega
        go_wp2_with (first | (refine wpList_store_at rfl _ _ _ rfl _ _ rfl rfl hst ?_; clear hst) | fail)
        refine wp_region_noPanic ?_
        go_region_held (fun V => ((V.cell? ⟨b9, 0, none⟩ = some (.string r.f) ∧ V.cell? ⟨b9, 1, none⟩ = some (.string r.t) ∧ V.cell? ⟨b9, 2, none⟩ = some (.bool r.hf) ∧ V.cell? ⟨b9, 3, none⟩ = some (.bool r.ht) ∧ V.cell? ⟨b9, 4, none⟩ = some (.bool r.pf) ∧ V.cell? ⟨b9, 5, none⟩ = some (.bool r.pt)) ∧ (V.cell? ⟨b4, 0, none⟩ = some (.string r.f) ∧ V.cell? ⟨b4, 1, none⟩ = some (.string r.t) ∧ V.cell? ⟨b4, 2, none⟩ = some (.bool r.hf) ∧ V.cell? ⟨b4, 3, none⟩ = some (.bool r.ht) ∧ V.cell? ⟨b4, 4, none⟩ = some (.bool r.pf) ∧ V.cell? ⟨b4, 5, none⟩ = some (.bool r.pt)) ∧ (V.cell? ⟨b8, 0, none⟩ = some (.string ⟨#[]⟩) ∧ V.cell? ⟨b8, 1, none⟩ = some (.string ⟨#[]⟩) ∧ V.cell? ⟨b8, 2, none⟩ = some (.bool false) ∧ V.cell? ⟨b8, 3, none⟩ = some (.bool false) ∧ V.cell? ⟨b8, 4, none⟩ = some (.bool false) ∧ V.cell? ⟨b8, 5, none⟩ = some (.bool false))) ∧ Below V8.heap.size V8 V)
          (first | (exact HKp.out _ (below_drew _)) | (exact HKp.out _ (below_step (by assumption : (_ ∧ _ ∧ _) ∧ Below V8.heap.size V8 _).2 (by assumption))) | assumption)
          (first
            | (go_at_call 10; refine (HQ1.out _ (by assumption : (_ ∧ _ ∧ _) ∧ Below V8.heap.size V8 _).2).mono ?_; rintro e u1 ⟨ra, rc, Z, rfl, HR⟩; have hbR := HR.out.2.2.2; clear HQ1)
            | (go_at_call 9; refine (items_on HR.out.1 HR.out.2.1 HR.out.2.2.1 HS.out.1 hP1 (by first | exact Below.refl _ _ | exact hbS) (by first | exact Below.refl _ _ | exact hbR)).mono ?_; rintro e u3 ⟨rfl, hb3⟩)
            | (go_at_call 11; refine (HQ2.out _ (by assumption : (_ ∧ _ ∧ _) ∧ Below V8.heap.size V8 _).2).mono ?_; rintro e u2 ⟨sa, sc, rfl, HS⟩; have hbS := HS.out.2; clear HQ2)
            | (go_at_call 12; refine (HQ3.out _ (by assumption : (_ ∧ _ ∧ _) ∧ Below V8.heap.size V8 _).2).mono ?_; rintro e u4 ⟨rfl, hb4'⟩; clear HQ3)
            | (go_at_call 13; refine (HQ4.out _ (by assumption : (_ ∧ _ ∧ _) ∧ Below V8.heap.size V8 _).2).mono ?_; rintro e u5 ⟨rfl, hb5⟩; clear HQ4)
            | (go_at_call 14; refine (HQ5.out _ (by assumption : (_ ∧ _ ∧ _) ∧ Below V8.heap.size V8 _).2).mono ?_; rintro e u6 ⟨rfl, hb6⟩; clear HQ5)
            | (go_at_call 11; refine (HQ6.out _ (by assumption : (_ ∧ _ ∧ _) ∧ Below V8.heap.size V8 _).2).mono ?_; rintro e u7 ⟨ta, tc, rfl, HS2⟩; have hbS2 := HS2.out.2; clear HQ6)
            | (go_at_call 15; refine (HSu.out _).mono ?_; rintro e u8 ⟨rfl, hb8'⟩; clear HSu)
            | fail)
        all_goals (
          refine NoPanic.normal ?_
          go_wp2_with fail
          go_ret
          exact ⟨rfl, below_step HBw.out (by assumption : (_ ∧ _ ∧ _) ∧ Below V8.heap.size V8 _).2⟩)
end Go.Proofs.YtagamkahfiackaaGreatDoor
