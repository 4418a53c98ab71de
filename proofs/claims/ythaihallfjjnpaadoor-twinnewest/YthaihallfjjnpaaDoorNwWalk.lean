/- The law TwinNewest, walked: texts saved one behind the other. -/
import Derived.Test.YthaihallfjjnpaaDoorTSure
import Derived.Test.YthaihallfjjnpaaDoorDAs
import Derived.Test.YthaihallfjjnpaaDoorTRow
namespace Go.Proofs.YthaihallfjjnpaaDoor
open Go.RowKit Go.Sort Go.Maps

theorem own_blk {w : World} {base b o n c : Nat} {xs : List Nat} (h : Own w base (.slice (some ⟨b, o, none⟩) n c) xs) (_ : True) : base ≤ b ∧ b < w.heap.size := by
  rcases h.2 with ⟨e, _⟩ | ⟨g, cap, cur, e, h1, h2, _⟩
  · cases e
  · cases e; exact ⟨h1, blk_lt h2⟩
/-- Between two rounds. -/
structure NwI (w : World) (bx i : Nat) (wr : World) : Prop where
  bw : Below w.heap.size w wr
  ar : ArAt wr bx (arS 6)
  lo : w.heap.size + 2 < bx
  dev : ∃ dv t, DevIn wr (w.heap.size + 2) w.heap.size (w.heap.size + 1) dv (8193 * i) ∧ Tw 6 dv i t ∧ dv.armed = false
theorem ar12_at (w : World) : ArAt (w.alloc (.cells #[.int .i64 0, .int .i64 0, .int .i64 12] 29)) w.heap.size (arS 6) := World.alloc_heap_new' _ _
theorem ErrType.below {w w' : World} (h : ErrType w) (hb : Below w.heap.size w w') : ErrType w' := h.on hb
theorem six12 : newD 1 (2 * ((6 : Nat) : Int)) = newD 1 12 := rfl
set_option maxRecDepth 100000 in
set_option maxHeartbeats 4000000 in
theorem newest_law (a : Option Addr) (n c : Nat) (f : Nat → TxV) (w : World) (hin : TxsAt w a n f) (hE : ErrType w) :
    Calls Tryd.prog 3 #[.slice a n c] w fun e w' => e = .returned (.bool true) ∧ Below w.heap.size w w' := by
  have HN := Lib.hid (new_ 1 12 w (by omega))
  have HT := Lib.hid (And.intro hin hE)
  have HSu := Lib.hid (fun W => sure_ W)
  clear hin hE
  go_enter Tryd.func3, Tryd.ntmps3
  go_wp2_with fail
  refine HN.out.mono ?_
  rintro e w1 ⟨rfl, hb1, hd1⟩
  unfold pt
  obtain ⟨W, hW⟩ : ∃ W, W = w1.alloc (.cells #[.int .i64 0, .int .i64 0, .int .i64 12] 29) := ⟨_, rfl⟩
  have hbW : Below w1.heap.size w1 W := by rw [hW]; exact below_alloc _ _
  have hA : ArAt W w1.heap.size (arS 6) := by rw [hW]; exact ar12_at w1
  have h0 := tw_new 6 (by omega) (by omega)
  rw [six12] at h0
  have HI0 : Hid (NwI w w1.heap.size 0 W) := ⟨below_step hb1 hbW, hA, hd1.lts.1, newD 1 12, [], by simpa using hd1.on hbW, h0, rfl⟩
  have hld : loadE (newD 1 12) (arS 6) = 8 := by unfold loadE; rw [if_neg (by simpa using still_look (by omega) h0.st), if_pos h0.top0.2]
  have HL : Hid (Calls Tryd.prog 5 #[.pointer (some ⟨w.heap.size + 2, 0, none⟩), .agg #[.int .i64 0, .int .i64 0, .int .i64 12]] W fun e w' => e = .returned (.tuple #[.slice none 0 0, .int .u64 0, .iface 42 (.int .i64 8)]) ∧ Below W.heap.size W w') := (load_ (hd1.on hbW) (arS 6) (inR_s 6 (by omega))).mono fun e w' ⟨h1, h2⟩ => by
    rcases h1 with ⟨h3, _⟩ | ⟨_, h3⟩
    · rw [hld] at h3; cases h3
    · rw [hld] at h3; exact ⟨h3, h2⟩
  have HW := Lib.hid hW
  obtain ⟨y0, y1, y2⟩ := hA.cells
  clear hb1 hd1 HN hbW hA h0 hld hW
  have e2 : (arS 6).s = 12 := rfl
  have e1 : (arS 6).f = 0 := rfl
  have e0 : (arS 6).g = 0 := rfl
  rw [e0] at y0
  rw [e1] at y1
  rw [e2] at y2
  clear e0 e1 e2
  go_wp2_with fail
  rw [← HW.out]
  generalize w1.heap.size = bx at *
  clear HW
  refine HL.out.mono ?_
  rintro e w2 ⟨rfl, hb2⟩
  have HI2 : Hid (NwI w bx 0 w2) := ⟨below_step HI0.out.bw hb2, HI0.out.ar.on hb2, HI0.out.lo, by obtain ⟨dv, t, q1, q2, q3⟩ := HI0.out.dev; exact ⟨dv, t, q1.on hb2, q2, q3⟩⟩
  have HNm := Lib.hid (num11 8 w2 (HT.out.2.on HI2.out.bw))
  clear hb2 HL HI0 y0 y1 y2
  go_wp2_with fail
  refine HNm.out.mono ?_
  rintro e w3 ⟨rfl, hb3⟩
  have HI3 : Hid (NwI w bx 0 w3) := ⟨below_step HI2.out.bw hb3, HI2.out.ar.on hb3, HI2.out.lo, by obtain ⟨dv, t, q1, q2, q3⟩ := HI2.out.dev; exact ⟨dv, t, q1.on hb3, q2, q3⟩⟩
  clear hb3 HNm HI2
  go_wp2_with fail
  go_loopw [9] (fun iv wr => ∃ i : Nat, iv = .int .i64 i ∧ i ≤ n ∧ i ≤ 12 ∧ Hid (NwI w bx i wr)) (fun iv _ => 12 - (intOf iv).toNat)
  case atStart => exact ⟨0, rfl, by omega, by omega, HI3⟩
  case round =>
    obtain ⟨i, rfl, hin, hi12, HI⟩ := hrel
    clear HI3
    by_cases hlt : i < n ∧ i < 12
    · obtain ⟨hl1, hl2⟩ := hlt
      have hlt1 : (i : Int) < (n : Int) := by omega
      have hlt2 : (i : Int) < 12 := by omega
      obtain ⟨b, o, rfl, hcl, hby, hbt, hnl, hcp⟩ := HT.out.1.on HI.out.bw i hl1
      generalize (f i).a = ta at *
      generalize (f i).xs = xs at *
      generalize (f i).c = tc at *
      obtain ⟨m, hm⟩ : ∃ m, m = min xs.length 360 := ⟨_, rfl⟩
      have hml : (xs.take m).length = m := by rw [List.length_take]; omega
      have hmm : min (xs.length : Int) 360 = (m : Int) := by omega
      have hmc : (m : Int) ≤ (tc : Int) := by omega
      have hm0 : (0 : Int) ≤ (m : Int) := by omega
      have hm360 : m ≤ 360 := by omega
      have HX := Lib.hid (And.intro hby (And.intro hbt (And.intro hnl (And.intro hml hm360))))
      obtain ⟨z0, z1, z2⟩ := HI.out.ar.cells
      have F0 : Hid (∀ V, Below wr.heap.size wr V → V.cell? ⟨bx, 0, none⟩ = some (.int .i64 0)) := fun V hV => (hV.cell (block_lt_of_cell z0)).trans z0
      have F1 : Hid (∀ V, Below wr.heap.size wr V → V.cell? ⟨bx, 1, none⟩ = some (.int .i64 0)) := fun V hV => (hV.cell (block_lt_of_cell z1)).trans z1
      have F2 : Hid (∀ V, Below wr.heap.size wr V → V.cell? ⟨bx, 2, none⟩ = some (.int .i64 12)) := fun V hV => (hV.cell (block_lt_of_cell z2)).trans z2
      have FC : Hid (∀ V, Below wr.heap.size wr V → V.cell? ⟨b, o + i, none⟩ = some (.slice ta xs.length tc)) := fun V hV => (hV.cell (block_lt_of_cell hcl)).trans hcl
      have HR : Hid (∀ V, Calls Tryd.prog 7 #[.agg #[.int .i64 0, .int .i64 0, .int .i64 12]] V fun e w' => e = .returned (.int .i64 360) ∧ Below V.heap.size V w') := fun V => (room9_ (arS 6) V).mono fun e w' ⟨h1, h2⟩ => ⟨by rw [h1, room_eq 6 (by omega) (by omega)]; rfl, h2⟩
      clear hby hbt hnl hcp hml hcl z0 z1 z2 hm hm360
      generalize hxl : xs.length = l at *
      go_wp2_with fail
      refine wp_region_noPanic ?_
      refine wp_region_held_drew (S := fun V => Below wr.heap.size wr V) (by kernel_rfl) (below_drew _) (fun hHeld => ?_)
      refine take_at 0 (.slice none 0 0) rfl (by kernel_rfl) (by kernel_rfl) (by kernel_rfl) (fun _ _ _ h => h) (Or.inl ⟨by rfl, ?_⟩) (by assumption) ?_
      · intro V hSV; go_simp
      simp only [Act.put, List.setIfInBounds_toArray, List.set_cons_zero, List.set_cons_succ]
      refine take_at 1 (.slice (some ⟨b, o, none⟩) n c) rfl (by kernel_rfl) (by kernel_rfl) (by kernel_rfl) (fun _ _ _ h => h) (Or.inl ⟨by rfl, ?_⟩) (by assumption) ?_
      · intro V hSV; go_simp
      simp only [Act.put, List.setIfInBounds_toArray, List.set_cons_zero, List.set_cons_succ]
      refine take_at 2 (.int .i64 i) rfl (by kernel_rfl) (by kernel_rfl) (by kernel_rfl) (fun _ _ _ h => h) (Or.inl ⟨by rfl, ?_⟩) (by assumption) ?_
      · intro V hSV; go_simp
      simp only [Act.put, List.setIfInBounds_toArray, List.set_cons_zero, List.set_cons_succ]
      refine take_at 3 (.pointer (some ⟨b, o + i, none⟩)) rfl (by kernel_rfl) (by kernel_rfl) (by kernel_rfl) (fun _ _ _ h => h) (Or.inl ⟨by rfl, ?_⟩) (by assumption) ?_
      · intro V hSV; go_simp
      simp only [Act.put, List.setIfInBounds_toArray, List.set_cons_zero, List.set_cons_succ]
      refine take_at 4 (.slice ta l tc) rfl (by kernel_rfl) (by kernel_rfl) (by kernel_rfl) (fun _ _ _ h => h) (Or.inl ⟨by rfl, ?_⟩) (by assumption) ?_
      · intro V hSV; have e0 := FC.out V hSV; go_simp
      simp only [Act.put, List.setIfInBounds_toArray, List.set_cons_zero, List.set_cons_succ]
      refine take_at 5 (.slice (some ⟨b, o, none⟩) n c) rfl (by kernel_rfl) (by kernel_rfl) (by kernel_rfl) (fun _ _ _ h => h) (Or.inl ⟨by rfl, ?_⟩) (by assumption) ?_
      · intro V hSV; go_simp
      simp only [Act.put, List.setIfInBounds_toArray, List.set_cons_zero, List.set_cons_succ]
      refine take_at 6 (.int .i64 i) rfl (by kernel_rfl) (by kernel_rfl) (by kernel_rfl) (fun _ _ _ h => h) (Or.inl ⟨by rfl, ?_⟩) (by assumption) ?_
      · intro V hSV; go_simp
      simp only [Act.put, List.setIfInBounds_toArray, List.set_cons_zero, List.set_cons_succ]
      refine take_at 7 (.pointer (some ⟨b, o + i, none⟩)) rfl (by kernel_rfl) (by kernel_rfl) (by kernel_rfl) (fun _ _ _ h => h) (Or.inl ⟨by rfl, ?_⟩) (by assumption) ?_
      · intro V hSV; go_simp
      simp only [Act.put, List.setIfInBounds_toArray, List.set_cons_zero, List.set_cons_succ]
      refine take_at 8 (.slice ta l tc) rfl (by kernel_rfl) (by kernel_rfl) (by kernel_rfl) (fun _ _ _ h => h) (Or.inl ⟨by rfl, ?_⟩) (by assumption) ?_
      · intro V hSV; have e0 := FC.out V hSV; go_simp
      simp only [Act.put, List.setIfInBounds_toArray, List.set_cons_zero, List.set_cons_succ]
      refine take_at 9 (.int .i64 l) rfl (by kernel_rfl) (by kernel_rfl) (by kernel_rfl) (fun _ _ _ h => h) (Or.inl ⟨by rfl, ?_⟩) (by assumption) ?_
      · intro V hSV; go_simp
      simp only [Act.put, List.setIfInBounds_toArray, List.set_cons_zero, List.set_cons_succ]
      refine take_at 10 (.agg #[.int .i64 0, .int .i64 0, .int .i64 12]) rfl (by kernel_rfl) (by kernel_rfl) (by kernel_rfl) (fun _ _ _ h => h) (Or.inl ⟨by rfl, ?_⟩) (by assumption) ?_
      · intro V hSV; have e0 := F0.out V hSV; have e1 := F1.out V hSV; have e2 := F2.out V hSV; go_simp
      simp only [Act.put, List.setIfInBounds_toArray, List.set_cons_zero, List.set_cons_succ]
      refine wpAnyH_ready (rs := [11]) (by kernel_rfl) (by simp) ?_
      refine AllReadyH.cons rfl (fun KK hK => ?_) AllReadyH.nil
      go_simp
      go_wp2_with (first | (go_at_call 7; refine (HR.out _).mono ?_; rintro e V1 ⟨rfl, hb1⟩))
      refine hK.out _ _ ?_ (fun hHeld11 => ?_)
      · exact below_step (by assumption) hb1
      clear hK KK
      refine take_at 12 (.int .i64 m) rfl (by kernel_rfl) (by kernel_rfl) (by kernel_rfl) (fun _ _ _ h => h) (Or.inl ⟨by rfl, ?_⟩) (by assumption) ?_
      · intro V hSV; go_simp
      simp only [Act.put, List.setIfInBounds_toArray, List.set_cons_zero, List.set_cons_succ]
      refine take_at 13 (.slice ta m tc) rfl (by kernel_rfl) (by kernel_rfl) (by kernel_rfl) (fun _ _ _ h => h) (Or.inl ⟨by rfl, ?_⟩) (by assumption) ?_
      · intro V hSV; go_simp
      simp only [Act.put, List.setIfInBounds_toArray, List.set_cons_zero, List.set_cons_succ]
      refine wpAnyH_ready (rs := [14]) (by kernel_rfl) (by simp) ?_
      refine AllReadyH.cons rfl (fun KK hK => ?_) AllReadyH.nil
      have hB1 : Below wr.heap.size wr V1 := by assumption
      refine step_append_bytes _ rfl _ _ rfl wr.heap.size _ [] (xs.take m) rfl (own_nil _ _) ta m tc rfl HX.out.2.2.2.1 HX.out.2.2.1 ((HX.out.1.take m).on hB1) (by rw [HX.out.2.2.2.1]; simp; omega) hB1.size ?_
      intro v' V2 hown hgrow
      have hB2 := below_grow hB1 (own_nil V1 wr.heap.size) hgrow
      rw [List.nil_append] at hown
      obtain ⟨xa, xc, rfl, hxb, hxn⟩ := hown.bytes
      rw [HX.out.2.2.2.1] at hown ⊢
      refine hK.out _ _ hB2 (fun hHeld14 => ?_)
      have HXO := Lib.hid (And.intro hown (And.intro hxb hB2))
      clear hK KK hown hxb hgrow hxn hB1 hB2
      refine take_at 15 (.slice xa m xc) rfl (by kernel_rfl) (by kernel_rfl) (by kernel_rfl) (fun _ _ _ h => h) (Or.inl ⟨by rfl, ?_⟩) (by assumption) ?_
      · intro V hSV; go_simp
      simp only [Act.put, List.setIfInBounds_toArray]
      refine wpAnyH_done (by kernel_rfl) ?_ _
      refine NoPanic.normal ?_
      clear hb1 hHeld hHeld11 hHeld14 F0 F1 F2 FC HR
      obtain ⟨dv, t, q1, q2, q3⟩ := HI.out.dev
      have hbt : ∀ x ∈ xs.take m, x < 256 := fun x h => HX.out.2.1 x (List.mem_of_mem_take h)
      have hlm := HX.out.2.2.2.1
      obtain ⟨u1, u2, u3, u4⟩ := q2.save (xs := xs.take m) (by omega) q3 (by rw [hlm]; exact HX.out.2.2.2.2) (by rw [hlm]; have := HX.out.2.2.2.2; omega) hbt
      have u5 := u4 []
      have hHI : Hid (NwI w bx i V2) := ⟨below_step HI.out.bw HXO.out.2.2, HI.out.ar.on HXO.out.2.2, HI.out.lo, dv, t, q1.on HXO.out.2.2, q2, q3⟩
      have HSv : Hid (Calls Tryd.prog 8 #[.pointer (some ⟨w.heap.size + 2, 0, none⟩), .agg #[.int .i64 0, .int .i64 0, .int .i64 12], .slice xa m xc] V2 fun e w' => e = .returned .nilIface ∧ DevIn w' (w.heap.size + 2) w.heap.size (w.heap.size + 1) (saveD dv (arS 6) (xs.take m)) (8193 * i + 8193) ∧ Fd (w.heap.size + 2) w.heap.size (w.heap.size + 1) V2 w') :=
        (save_ (q1.on HXO.out.2.2) (by omega) (arS 6) (inR_s 6 (by omega)) (xs.take m) xa m xc hlm HXO.out.2.1 hbt).mono fun e w' ⟨h1, h2, h3⟩ => ⟨by rw [h1, u1]; rfl, h2, h3⟩
      have HRs : Hid (∀ V, DevIn V (w.heap.size + 2) w.heap.size (w.heap.size + 1) (saveD dv (arS 6) (xs.take m)) (8193 * i + 8193) → Calls Tryd.prog 9 #[.pointer (some ⟨w.heap.size + 2, 0, none⟩), .slice none 0 0] V fun e w' => e = .returned (.tuple #[]) ∧ DevIn w' (w.heap.size + 2) w.heap.size (w.heap.size + 1) (restartD (saveD dv (arS 6) (xs.take m)) []) (8193 * i + 8193) ∧ Fd (w.heap.size + 2) w.heap.size (w.heap.size + 1) V w') := fun V hV =>
        restart_ hV none [] 0 0 rfl (intsIn_nil _ _) (fun b o e => by cases e) (by omega)
      obtain ⟨t1, t2, t3⟩ := u5.tells (by omega)
      obtain ⟨b1, b2⟩ := u5.both (by omega)
      have hlk := still_look (by omega) u5.st
      have hle : loadE (restartD (saveD dv (arS 6) (xs.take m)) []) (arS 6) = 0 := by unfold loadE; rw [if_neg (by simpa using hlk), if_neg (by omega)]
      have HLd : Hid (∀ V, DevIn V (w.heap.size + 2) w.heap.size (w.heap.size + 1) (restartD (saveD dv (arS 6) (xs.take m)) []) (8193 * i + 8193) → Calls Tryd.prog 5 #[.pointer (some ⟨w.heap.size + 2, 0, none⟩), .agg #[.int .i64 0, .int .i64 0, .int .i64 12]] V fun e w' => ∃ la lc, e = .returned (.tuple #[.slice la m lc, .int .u64 (i + 1 : Nat), .nilIface]) ∧ BytesIn w' la (xs.take m) ∧ Below V.heap.size V w') := fun V hV =>
        (load_ hV (arS 6) (inR_s 6 (by omega))).mono fun e w' ⟨h1, h2⟩ => by
          rcases h1 with ⟨_, v, he, la, lc, hv, hby, _⟩ | ⟨h0, _⟩
          · rw [t3] at hv hby
            exact ⟨la, lc, by rw [he, hv, t2, hlm], hby, h2⟩
          · exact absurd hle h0
      obtain ⟨P, hP⟩ : ∃ P, P = numA (restartD (saveD dv (arS 6) (xs.take m)) []) (arS 6) 0 := ⟨_, rfl⟩
      obtain ⟨Q, hQ⟩ : ∃ Q, Q = numA (restartD (saveD dv (arS 6) (xs.take m)) []) (arS 6) 1 := ⟨_, rfl⟩
      rw [← hP, ← hQ] at b1 b2
      have HHv : Hid (∀ V, DevIn V (w.heap.size + 2) w.heap.size (w.heap.size + 1) (restartD (saveD dv (arS 6) (xs.take m)) []) (8193 * i + 8193) → Calls Tryd.prog 10 #[.pointer (some ⟨w.heap.size + 2, 0, none⟩), .agg #[.int .i64 0, .int .i64 0, .int .i64 12]] V fun e w' => e = .returned (.tuple #[.int .u64 P, .int .u64 Q, .nilIface]) ∧ Below V.heap.size V w') := fun V hV =>
        (halves_ hV (arS 6) (inR_s 6 (by omega))).mono fun e w' ⟨h1, h2⟩ => ⟨by rw [h1, hlk, if_pos rfl, if_pos rfl, ← hP, ← hQ]; rfl, h2⟩
      have hD2 : (restartD (saveD dv (arS 6) (xs.take m)) []).armed = false := rfl
      have hwr3 : w.heap.size + 2 < wr.heap.size := (q1.lts).1
      have HTw : Hid (∃ t', Tw 6 (restartD (saveD dv (arS 6) (xs.take m)) []) (i + 1) t') := ⟨_, u5⟩
      have hmx : max (P : Int) (Q : Int) = (i : Int) + 1 := by omega
      have hmn : min (P : Int) (Q : Int) = (i : Int) := by omega
      clear u1 u2 u3 u4 u5 q1 q2 q3 t1 t2 t3 b1 b2 hlk hle hP hQ hbt HI
      generalize restartD (saveD dv (arS 6) (xs.take m)) [] = D2 at *
      generalize saveD dv (arS 6) (xs.take m) = D1 at *
      obtain ⟨z0, z1, z2⟩ := hHI.out.ar.cells
      have e2 : (arS 6).s = 12 := rfl
      have e1 : (arS 6).f = 0 := rfl
      have e0 : (arS 6).g = 0 := rfl
      rw [e0] at z0
      rw [e1] at z1
      rw [e2] at z2
      clear e0 e1 e2
      go_wp2_with fail
      refine HSv.out.mono ?_
      rintro e V3 ⟨rfl, hd3, hf3⟩
      have HC3 := Lib.hid (HRs.out V3 hd3)
      have HF3 := Lib.hid hf3
      clear hd3 hf3 HSv HRs z0 z1 z2
      go_wp2_with fail
      refine HC3.out.mono ?_
      rintro e V4 ⟨rfl, hd4, hf4⟩
      have hF4 := HF3.out.trans hf4
      have hlo := hHI.out.lo
      have hne : bx ≠ w.heap.size + 2 ∧ bx ≠ w.heap.size ∧ bx ≠ w.heap.size + 1 := by omega
      have hA4 := hF4.ar hHI.out.ar hne.1 hne.2.1 hne.2.2
      have hsz2 := hHI.out.bw.size
      have hlts := hd4.lts
      have hB4 : Below w.heap.size w V4 := hHI.out.bw.trans (hF4.below hsz2 (by omega) (by omega) (by omega))
      have hX4 : BytesIn V4 xa (xs.take m) := by
        intro j hj
        obtain ⟨bb, oo, ee, hcc⟩ := HXO.out.2.1 j hj
        refine ⟨bb, oo, ee, ?_⟩
        have hown := HXO.out.1
        subst ee
        have hown2 := own_blk hown trivial
        have hge : wr.heap.size ≤ bb := hown2.1
        have h3 : w.heap.size + 2 < wr.heap.size := Nat.lt_of_lt_of_le hwr3 (Nat.le_refl _)
        rw [← hcc]
        exact cell_same (hF4.block bb (block_lt_of_cell hcc) (by omega) (by omega) (by omega))
      have HC4 := Lib.hid (HLd.out V4 hd4)
      have HD4 := Lib.hid (And.intro hd4 (And.intro hA4 (And.intro hB4 hX4)))
      obtain ⟨z0, z1, z2⟩ := hA4.cells
      have e2 : (arS 6).s = 12 := rfl
      have e1 : (arS 6).f = 0 := rfl
      have e0 : (arS 6).g = 0 := rfl
      rw [e0] at z0
      rw [e1] at z1
      rw [e2] at z2
      clear e0 e1 e2 hd4 hf4 hF4 hne hA4 hB4 hX4 HC3 HF3 HLd hHI HXO hlts
      go_wp2_with fail
      refine HC4.out.mono ?_
      rintro e V5 ⟨la, lc, rfl, hlb, hb5⟩
      have HC5 := Lib.hid (HHv.out V5 (HD4.out.1.on hb5))
      obtain ⟨z0, z1, z2⟩ := (HD4.out.2.1.on hb5).cells
      have e2 : (arS 6).s = 12 := rfl
      have e1 : (arS 6).f = 0 := rfl
      have e0 : (arS 6).g = 0 := rfl
      rw [e0] at z0
      rw [e1] at z1
      rw [e2] at z2
      have HD5 := Lib.hid (And.intro hb5 hlb)
      clear e0 e1 e2 hb5 hlb HC4 HHv
      go_wp2_with fail
      refine HC5.out.mono ?_
      rintro e V6 ⟨rfl, hb6⟩
      have hB46 := below_step HD5.out.1 hb6
      have hcv1 := conv_ V6 la m lc (xs.take m) hlm.symm (HD5.out.2.on hb6)
      have hcv2 := conv_ V6 xa m xc (xs.take m) hlm.symm (HD4.out.2.2.2.on hB46)
      have HI6 : Hid (NwI w bx (i + 1) V6) := by
        obtain ⟨t', ht'⟩ := HTw.out
        exact ⟨below_step HD4.out.2.2.1 hB46, HD4.out.2.1.on hB46, hlo, D2, t', by rw [show 8193 * (i + 1) = 8193 * i + 8193 by omega]; exact HD4.out.1.on hB46, ht', hD2⟩
      have w1' := wraps_u64 ((i : Int) + 1) (by omega) (by omega)
      have w2' := wraps_u64 (i : Int) (by omega) (by omega)
      clear hb6 HC5 HD5 HD4 HTw z0 z1 z2 hB46
      generalize bs (xs.take m) = sx at *
      go_wp2_with fail
      exact ⟨⟨i + 1, by go_num, by omega, by omega, HI6⟩, by simp [intOf]; omega⟩
    · by_cases hl1 : i < n
      · have hlt1 : (i : Int) < (n : Int) := by omega
        have hlt2 : ¬ (i : Int) < 12 := by omega
        have HBw := Lib.hid HI.out.bw
        clear HI hlt
        go_wp2_with fail
        refine (HSu.out _).mono ?_
        rintro e w4 ⟨rfl, hb4⟩
        have HB4 := Lib.hid (below_step HBw.out hb4)
        clear hb4
        go_wp2_with fail
        go_ret
        exact ⟨rfl, HB4.out⟩
      · have hlt1 : ¬ (i : Int) < (n : Int) := by omega
        have HBw := Lib.hid HI.out.bw
        clear HI hlt
        go_wp2_with fail
        refine (HSu.out _).mono ?_
        rintro e w4 ⟨rfl, hb4⟩
        have HB4 := Lib.hid (below_step HBw.out hb4)
        clear hb4
        go_wp2_with fail
        go_ret
        exact ⟨rfl, HB4.out⟩
end Go.Proofs.YthaihallfjjnpaaDoor
