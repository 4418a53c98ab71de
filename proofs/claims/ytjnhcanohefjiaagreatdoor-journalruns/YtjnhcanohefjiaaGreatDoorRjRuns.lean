/- The walk of the law JournalRuns. -/
import Derived.Test.YtjnhcanohefjiaaGreatDoorRjRun0
namespace Go.Proofs.YtjnhcanohefjiaaGreatDoor
open Go.RowKit Go.Sort Go.Maps

set_option maxRecDepth 100000 in
set_option maxHeartbeats 16000000 in
theorem runs11_out (a : Ar) (ep : Nat) (la : Option Addr) (n c : Nat) (w : World) (har : inR a) (hE : ErrType w) (hin : ¬ inJ (newD 2 12) a) :
    Calls Tryz.prog 3 #[arV a, .int .u64 ep, .slice la n c] w fun e w' => e = .returned (.bool true) ∧ Below w.heap.size w w' := by
  obtain ⟨ag, af, az⟩ := a
  unfold arV
  dsimp only
  obtain ⟨W, hW⟩ : ∃ W, W = w.alloc (.cells #[.int .i64 ag, .int .i64 af, .int .i64 az] 23) := ⟨_, rfl⟩
  have HB : Hid (Below w.heap.size w W) := by rw [hW]; exact below_alloc w _
  have hg := alloc_at w (.cells #[.int .i64 ag, .int .i64 af, .int .i64 az] 23)
  rw [← hW] at hg
  have HG := Lib.hid hg
  have HW := Lib.hid hW
  have HN := Lib.hid (new_x 2 12 W (by omega))
  have HR : Hid (∀ V : World, Calls Tryz.prog 6 #[.int .i64 2, .int .i64 12] V fun e w' => e = .returned (.tuple #[rdV (newR 2 12) none 0, .int .i64 0]) ∧ Below V.heap.size V w') := fun V => rnew_ 2 12 V (by omega)
  have HE := Lib.hid hE
  have HAr := Lib.hid har
  clear hW hg hE har
  go_enter Tryz.func3, Tryz.ntmps3
  go_wp2_with fail
  rw [← HW.out]
  refine HN.out.mono ?_
  rintro e w1 ⟨p, aa, bb, rfl, hlo, hb1, hd1⟩
  have hsW := HB.out.size
  have HB1 := Lib.hid (below_step HB.out hb1)
  have HG1 := Lib.hid ((hb1.block _ (blk_lt HG.out)).trans HG.out)
  have HD1 := Lib.hid hd1
  have hpw : w.heap.size ≤ p ∧ w.heap.size ≤ aa ∧ w.heap.size ≤ bb := by omega
  clear HN hd1 hb1 HB HG HW hlo
  go_wp2_with fail
  refine (HR.out w1).mono ?_
  rintro e w2 ⟨rfl, hb2⟩
  unfold rdV rdC newR
  dsimp only [List.length_nil]
  obtain ⟨B9, hB9⟩ : ∃ B9, B9 = w2.heap.size := ⟨_, rfl⟩
  obtain ⟨W3, hW3⟩ : ∃ W3, W3 = (w2.alloc (.cells #[.int .i64 2, .int .i64 12, .slice none 0 0, .bool false, .bool false, .int .i64 0] 33)).alloc (.cells #[.int .i64 ag, .int .i64 af, .int .i64 az] 36) := ⟨_, rfl⟩
  obtain ⟨t1, t2, t3⟩ := two_at w2 (.cells #[.int .i64 2, .int .i64 12, .slice none 0 0, .bool false, .bool false, .int .i64 0] 33) (.cells #[.int .i64 ag, .int .i64 af, .int .i64 az] 36)
  rw [← hW3, ← hB9] at t1 t2
  rw [← hW3] at t3
  have hb23 := below_step hb2 t3
  have HX3 : Hid (W3.heap[B9]? = some (.cells #[.int .i64 2, .int .i64 12, .slice none 0 0, .bool false, .bool false, .int .i64 0] 33 (0, 0)) ∧ ArAt W3 (B9 + 1) (⟨ag, af, az⟩ : Ar) ∧ W3.heap[w.heap.size]? = some (.cells #[.int .i64 ag, .int .i64 af, .int .i64 az] 23 (0, 0)) ∧ Below w.heap.size w W3 ∧ DevIn W3 p aa bb (newD 2 12) 0) := ⟨t1, t2, (hb23.block _ (blk_lt HG1.out)).trans HG1.out, below_step HB1.out hb23, HD1.out.on hb23⟩
  have hwB : w.heap.size < B9 := by rw [hB9]; have := blk_lt HG1.out; have := hb2.size; omega
  obtain ⟨g0, g1, g2⟩ := ar_cells ((hb2.block _ (blk_lt HG1.out)).trans HG1.out)
  have HW3 := Lib.hid hW3
  have HB9 := Lib.hid hB9
  have HLq : Hid ((Instr.loadAt 23 (.pointer (some ⟨w.heap.size, 0, none⟩))).run Tryz.prog (w2.alloc (.cells #[.int .i64 2, .int .i64 12, .slice none 0 0, .bool false, .bool false, .int .i64 0] 33)) = .ok (.agg #[.int .i64 ag, .int .i64 af, .int .i64 az]) (w2.alloc (.cells #[.int .i64 2, .int .i64 12, .slice none 0 0, .bool false, .bool false, .int .i64 0] 33))) := load_ra3 (alloc_old ((hb2.block _ (blk_lt HG1.out)).trans HG1.out))
  clear hb2 t1 t2 t3 hb23 hW3 hB9 HR HD1 HB1 hsW
  go_wp2_with (first
    | (refine wpList_load_at rfl 23 _ rfl _ _ rfl HLq.out ?_)
    | fail)
  simp only [← HB9.out, ← HW3.out]
  clear g0 g1 g2 HW3 HB9 HG1 HLq

  have HJo := Lib.hid (jopen_out HX3.out.2.2.2.2 (⟨ag, af, az⟩ : Ar) HAr.out ep hin)
  unfold arV at HJo
  dsimp only at HJo
  have HRo : Hid (∀ V, Below W3.heap.size W3 V → Calls Tryz.prog 8 #[.agg #[.int .i64 2, .int .i64 12, .slice none 0 0, .bool false, .bool false, .int .i64 0], .agg #[.int .i64 ag, .int .i64 af, .int .i64 az], .int .u64 ep] V fun e w' => e = .returned (.tuple #[.agg #[.int .i64 0, .int .i64 0, .int .i64 0, .int .u64 0, .string ⟨#[]⟩, .slice none 0 0, .int .i64 0, .int .i64 0, .int .i64 0], .agg #[.int .i64 2, .int .i64 12, .slice none 0 0, .bool false, .bool false, .int .i64 0], .slice none 0 0, .int .i64 1]) ∧ Below V.heap.size V w') := fun V hV => ropen_out (x := newR 2 12) (al := none) (cl := 0) (d := newD 2 12) ⟨lstS_nil _, tie_new 2 12, okD_new 2 12, ⟨rfl, rfl⟩, ⟨by show (0 : Int) ≤ 0; omega, by show (0 : Int) ≤ _; omega⟩⟩ (⟨ag, af, az⟩ : Ar) HAr.out ep hin
  obtain ⟨a0, a1, a2⟩ := ArAt.cells HX3.out.2.1
  dsimp only at a0 a1 a2
  go_wp2_with fail
  refine HJo.out.mono ?_
  rintro e w4 ⟨rfl, hb4⟩
  have HB4 := Lib.hid hb4
  have HLd := Lib.hid (load_rd ((hb4.block _ (blk_lt HX3.out.1)).trans HX3.out.1) rfl)
  have HLa := Lib.hid (load_ra3 ((hb4.block _ (blk_lt HX3.out.2.2.1)).trans HX3.out.2.2.1))
  have e01 : errV 1 = .iface 68 (.int .i64 1) := rfl
  rw [e01]
  clear hb4 HJo a0 a1 a2
  go_wp2_with (first
    | (refine wpList_load_at rfl 33 _ rfl _ _ rfl HLd.out ?_)
    | (refine wpList_load_at rfl 23 _ rfl _ _ rfl HLa.out ?_)
    | fail)
  refine (HRo.out w4 HB4.out).mono ?_
  rintro e w5 ⟨rfl, hb5⟩
  have hb45 := below_step HB4.out hb5
  have hg9 := (hb45.block _ (blk_lt HX3.out.1)).trans HX3.out.1
  obtain ⟨U7, hs7, hp7⟩ := put_rd (w := w5.alloc (.cells #[.int .i64 0, .int .i64 0, .int .i64 0, .int .u64 0, .string ⟨#[]⟩, .slice none 0 0, .int .i64 0, .int .i64 0, .int .i64 0] 43)) (b := B9) (cs := #[.int .i64 2, .int .i64 12, .slice none 0 0, .bool false, .bool false, .int .i64 0]) (alloc_old hg9) rfl rfl (by simp [Value.oneCell'])
  have hB7 : Below w.heap.size w U7 := hp7.below (below_step (below_step HX3.out.2.2.2.1 hb45) (below_alloc _ _)) (by omega)
  have HS7 := Lib.hid hs7
  have HB7 := Lib.hid hB7
  have HNm := Lib.hid (num11 1 U7 (HE.out.on hB7))
  clear hb5 hb45 hg9 hs7 hp7 hB7 HRo HLd HLa HB4 HX3
  go_wp2_with (first
    | (refine wpList_store_at rfl 33 _ _ rfl _ _ rfl rfl HS7.out ?_)
    | fail)
  refine HNm.out.mono ?_
  rintro e w8 ⟨rfl, hb8⟩
  have HB8 := Lib.hid (below_step HB7.out hb8)
  clear hb8 HNm
  go_wp2_with fail
  refine (sure_ w8).mono ?_
  rintro e w9 ⟨rfl, hb9⟩
  have HB9' := Lib.hid (below_step HB8.out hb9)
  clear hb9
  go_wp2_with fail
  go_ret
  exact ⟨rfl, HB9'.out⟩
set_option maxRecDepth 100000 in
set_option maxHeartbeats 16000000 in
theorem runs11_in (a : Ar) (ep : Nat) (la : Option Addr) (n c : Nat) (f : Nat → ActV) (w : World) (har : inR a) (hep : ep < 18446744073709551616) (hacts : ActsAt w la n f) (hlim : ∀ i, i < n → (f i).dxs.length ≤ 140737488351232 ∧ (f i).cs.length * 8 ≤ 140737488351232) (hE : ErrType w) (hin : inJ (newD 2 12) a) :
    Calls Tryz.prog 3 #[arV a, .int .u64 ep, .slice la n c] w fun e w' => e = .returned (.bool true) ∧ Below w.heap.size w w' := by
  obtain ⟨ag, af, az⟩ := a
  unfold arV
  dsimp only
  obtain ⟨W, hW⟩ : ∃ W, W = w.alloc (.cells #[.int .i64 ag, .int .i64 af, .int .i64 az] 23) := ⟨_, rfl⟩
  have HB : Hid (Below w.heap.size w W) := by rw [hW]; exact below_alloc w _
  have hg := alloc_at w (.cells #[.int .i64 ag, .int .i64 af, .int .i64 az] 23)
  rw [← hW] at hg
  have HG := Lib.hid hg
  have HW := Lib.hid hW
  have HN := Lib.hid (new_x 2 12 W (by omega))
  have HR : Hid (∀ V : World, Calls Tryz.prog 6 #[.int .i64 2, .int .i64 12] V fun e w' => e = .returned (.tuple #[rdV (newR 2 12) none 0, .int .i64 0]) ∧ Below V.heap.size V w') := fun V => rnew_ 2 12 V (by omega)
  have HE := Lib.hid hE
  have HAr := Lib.hid har
  have HI := Lib.hid hacts
  have HLm := Lib.hid hlim
  clear hacts hlim
  clear hW hg hE har
  go_enter Tryz.func3, Tryz.ntmps3
  go_wp2_with fail
  rw [← HW.out]
  refine HN.out.mono ?_
  rintro e w1 ⟨p, aa, bb, rfl, hlo, hb1, hd1⟩
  have hsW := HB.out.size
  have HB1 := Lib.hid (below_step HB.out hb1)
  have HG1 := Lib.hid ((hb1.block _ (blk_lt HG.out)).trans HG.out)
  have HD1 := Lib.hid hd1
  have hpw : w.heap.size ≤ p ∧ w.heap.size ≤ aa ∧ w.heap.size ≤ bb := by omega
  clear HN hd1 hb1 HB HG HW hlo
  go_wp2_with fail
  refine (HR.out w1).mono ?_
  rintro e w2 ⟨rfl, hb2⟩
  unfold rdV rdC newR
  dsimp only [List.length_nil]
  obtain ⟨B9, hB9⟩ : ∃ B9, B9 = w2.heap.size := ⟨_, rfl⟩
  obtain ⟨W3, hW3⟩ : ∃ W3, W3 = (w2.alloc (.cells #[.int .i64 2, .int .i64 12, .slice none 0 0, .bool false, .bool false, .int .i64 0] 33)).alloc (.cells #[.int .i64 ag, .int .i64 af, .int .i64 az] 36) := ⟨_, rfl⟩
  obtain ⟨t1, t2, t3⟩ := two_at w2 (.cells #[.int .i64 2, .int .i64 12, .slice none 0 0, .bool false, .bool false, .int .i64 0] 33) (.cells #[.int .i64 ag, .int .i64 af, .int .i64 az] 36)
  rw [← hW3, ← hB9] at t1 t2
  rw [← hW3] at t3
  have hb23 := below_step hb2 t3
  have HX3 : Hid (W3.heap[B9]? = some (.cells #[.int .i64 2, .int .i64 12, .slice none 0 0, .bool false, .bool false, .int .i64 0] 33 (0, 0)) ∧ ArAt W3 (B9 + 1) (⟨ag, af, az⟩ : Ar) ∧ W3.heap[w.heap.size]? = some (.cells #[.int .i64 ag, .int .i64 af, .int .i64 az] 23 (0, 0)) ∧ Below w.heap.size w W3 ∧ DevIn W3 p aa bb (newD 2 12) 0) := ⟨t1, t2, (hb23.block _ (blk_lt HG1.out)).trans HG1.out, below_step HB1.out hb23, HD1.out.on hb23⟩
  have hwB : w.heap.size < B9 := by rw [hB9]; have := blk_lt HG1.out; have := hb2.size; omega
  obtain ⟨g0, g1, g2⟩ := ar_cells ((hb2.block _ (blk_lt HG1.out)).trans HG1.out)
  have HW3 := Lib.hid hW3
  have HB9 := Lib.hid hB9
  have HLq : Hid ((Instr.loadAt 23 (.pointer (some ⟨w.heap.size, 0, none⟩))).run Tryz.prog (w2.alloc (.cells #[.int .i64 2, .int .i64 12, .slice none 0 0, .bool false, .bool false, .int .i64 0] 33)) = .ok (.agg #[.int .i64 ag, .int .i64 af, .int .i64 az]) (w2.alloc (.cells #[.int .i64 2, .int .i64 12, .slice none 0 0, .bool false, .bool false, .int .i64 0] 33))) := load_ra3 (alloc_old ((hb2.block _ (blk_lt HG1.out)).trans HG1.out))
  clear hb2 t1 t2 t3 hb23 hW3 hB9 HR HD1 HB1 hsW
  go_wp2_with (first
    | (refine wpList_load_at rfl 23 _ rfl _ _ rfl HLq.out ?_)
    | fail)
  simp only [← HB9.out, ← HW3.out]
  clear g0 g1 g2 HW3 HB9 HG1 HLq

  have hrest : Rest (newD 2 12) (⟨ag, af, az⟩ : Ar) := Rest.new 2 12 (by omega) (⟨ag, af, az⟩ : Ar) hin
  have hopd := hrest.opened hep
  have hon := open_new 2 12 (⟨ag, af, az⟩ : Ar) ep
  have hk12 : az.toNat ≤ 12 := by have q1 : az ≤ 12 := hin.2.2.2.2.1; omega
  have HOp : Hid (Calls Tryz.prog 7 #[.pointer (some ⟨p, 0, none⟩), .agg #[.int .i64 ag, .int .i64 af, .int .i64 az], .int .u64 ep] W3 (OpenTo W3 w.heap.size p aa bb (cleanD (⟨ag, af, az⟩ : Ar) (openJ (newD 2 12) (⟨ag, af, az⟩ : Ar) ep).row (newD 2 12)) (0 + az.toNat) (openJ (newD 2 12) (⟨ag, af, az⟩ : Ar) ep))) :=
    jopen_ HX3.out.2.2.2.2 hpw HX3.out.2.2.2.1.size (⟨ag, af, az⟩ : Ar) HAr.out hin rfl ep hep hopd.1 (by show 0 + az.toNat < _; omega)
  have HRo : Hid (∀ V, Calls Tryz.prog 8 #[.agg #[.int .i64 2, .int .i64 12, .slice none 0 0, .bool false, .bool false, .int .i64 0], .agg #[.int .i64 ag, .int .i64 af, .int .i64 az], .int .u64 ep] V (RopTo V (fun _ => False) (newD 2 12) (⟨ag, af, az⟩ : Ar) ep)) := fun V => ropen_ (x := newR 2 12) (al := none) (cl := 0) (d := newD 2 12) ⟨lstS_nil _, tie_new 2 12, okD_new 2 12, ⟨rfl, rfl⟩, ⟨by show (0 : Int) ≤ 0; omega, by show (0 : Int) ≤ _; omega⟩⟩ (⟨ag, af, az⟩ : Ar) hrest ep hep (fun _ => False) (fun k hk => hk.elim)
  have HCm := Lib.hid hopd.2.1
  unfold RopTo at HRo
  unfold OpenTo at HOp
  rw [hon] at HRo HOp HCm
  have HRg := Lib.hid (Rg.clean (⟨ag, af, az⟩ : Ar) ((⟨(⟨ag, af, az⟩ : Ar), ep, [], 0, 0⟩ : Jr)).row (newD 2 12))
  generalize hd9 : cleanD (⟨ag, af, az⟩ : Ar) ((⟨(⟨ag, af, az⟩ : Ar), ep, [], 0, 0⟩ : Jr)).row (newD 2 12) = d9 at *
  dsimp only [List.length_nil] at HRo HOp
  obtain ⟨a0, a1, a2⟩ := ArAt.cells HX3.out.2.1
  dsimp only at a0 a1 a2
  clear hopd hon hrest hd9
  go_wp2_with fail
  refine HOp.out.mono ?_
  rintro e w4 ⟨q, rv, ev, xa, xc, rfl, hJ4, _, _, hX4⟩
  have no9 := HX3.out.2.2.2.2.other HX3.out.1 (by decide)
  have no11 := HX3.out.2.2.2.2.other HX3.out.2.1 (by decide)
  have no3 := HX3.out.2.2.2.2.other HX3.out.2.2.1 (by decide)
  have hg9 := (hX4.block _ (blk_lt HX3.out.1) (by rintro (e | e | e); exact no9.1 e; exact no9.2.1 e; exact no9.2.2 e)).trans HX3.out.1
  have hg11 : ArAt w4 (B9 + 1) (⟨ag, af, az⟩ : Ar) := (hX4.block _ (blk_lt HX3.out.2.1) (by rintro (e | e | e); exact no11.1 e; exact no11.2.1 e; exact no11.2.2 e)).trans HX3.out.2.1
  have hg3 := (hX4.block _ (blk_lt HX3.out.2.2.1) (by rintro (e | e | e); exact no3.1 e; exact no3.2.1 e; exact no3.2.2 e)).trans HX3.out.2.2.1
  have hB4 : Below w.heap.size w w4 := HX3.out.2.2.2.1.trans (hX4.below HX3.out.2.2.2.1.size (by rintro k (e | e | e) <;> omega))
  have HLd := Lib.hid (load_rd hg9 rfl)
  have HLa := Lib.hid (load_ra3 hg3)
  have HX4 := Lib.hid (And.intro hJ4 (And.intro hg9 (And.intro hg11 hB4)))
  clear no9 no11 no3 hg9 hg11 hg3 hB4 hX4 hJ4 HOp a0 a1 a2 HX3
  go_wp2_with (first
    | (refine wpList_load_at rfl 33 _ rfl _ _ rfl HLd.out ?_)
    | (refine wpList_load_at rfl 23 _ rfl _ _ rfl HLa.out ?_)
    | fail)
  refine (HRo.out w4).mono ?_
  rintro e w5 ⟨x2, ra2, rc2, ea2, ec2, ya, yc, rfl, hL5, hT5, _, _, hb5⟩
  obtain ⟨v0, v1, v2, v3, v4, v5, hv, hv1⟩ := rd_ex x2 ra2 rc2
  obtain ⟨u0, u1, u2, u3, u4, u5, u6, u7, u8, hu, hu1, hu3⟩ := rj_ex (⟨(⟨ag, af, az⟩ : Ar), ep, [], 0, 0⟩ : Jr) ea2 ec2
  clear hu3
  rw [hv, hu]
  obtain ⟨U6, hs6, hp6⟩ := put_rj (w := w5.alloc (.cells #[.int .i64 0, .int .i64 0, .int .i64 0, .int .u64 0, .string ⟨#[]⟩, .slice none 0 0, .int .i64 0, .int .i64 0, .int .i64 0] 43)) (b := w5.heap.size) (cs := #[u0, u1, u2, u3, u4, u5, u6, u7, u8]) (alloc_at w5 _) rfl rfl hu1
  have hB56 : Below w5.heap.size w5 U6 := hp6.below (below_alloc w5 (.cells #[.int .i64 0, .int .i64 0, .int .i64 0, .int .u64 0, .string ⟨#[]⟩, .slice none 0 0, .int .i64 0, .int .i64 0, .int .i64 0] 43)) (Nat.le_refl _)
  have hb46 := below_step hb5 hB56
  have hg96 := (hb46.block _ (blk_lt HX4.out.2.1)).trans HX4.out.2.1
  have hne9 : B9 < w5.heap.size := by have := blk_lt HX4.out.2.1; have := hb5.size; omega
  obtain ⟨U7, hs7, hp7⟩ := put_rd (w := U6) (b := B9) (cs := #[v0, v1, v2, v3, v4, v5]) hg96 rfl rfl hv1
  have hJ6 := HX4.out.1.on hb46
  have hn9 := hJ6.free hg96 (by decide) (by decide) (by decide) (by decide)
  have hJ7 := hJ6.keep (w' := U7) (fun k hk => hp7.far k (fun e => hn9 (by rw [← e]; exact hk)))
  have hb15 : U7.heap[w5.heap.size]? = some (.cells #[u0, u1, u2, u3, u4, u5, u6, u7, u8] 43 (0, 0)) := (hp7.far _ (by omega)).trans hp6.blk
  obtain ⟨U9, hs9, hp9⟩ := put_wd (w := U7.alloc (.cells #[.pointer none, .pointer none, .int .i64 0, .int .i64 0, .slice none 0 0, .bool false, .bool false, .int .i64 0, .int .i64 0, .int .i64 0, .int .i64 0, .int .u64 0, .string ⟨#[]⟩, .slice none 0 0, .int .i64 0, .int .i64 0, .int .i64 0] 49)) (b := U7.heap.size) (cs := #[.pointer (some ⟨p, 0, none⟩), .pointer (some ⟨q, 0, none⟩), v0, v1, v2, v3, v4, v5, u0, u1, u2, u3, u4, u5, u6, u7, u8]) (alloc_at U7 _) rfl rfl (wd_all (pv := .pointer (some ⟨p, 0, none⟩)) (qv := .pointer (some ⟨q, 0, none⟩)) hv1 hu1 rfl rfl)
  have hB79 : Below U7.heap.size U7 U9 := hp9.below (below_alloc U7 (.cells #[.pointer none, .pointer none, .int .i64 0, .int .i64 0, .slice none 0 0, .bool false, .bool false, .int .i64 0, .int .i64 0, .int .i64 0, .int .i64 0, .int .u64 0, .string ⟨#[]⟩, .slice none 0 0, .int .i64 0, .int .i64 0, .int .i64 0] 49)) (Nat.le_refl _)
  have h11 : ArAt U9 (B9 + 1) (⟨ag, af, az⟩ : Ar) := by
    have q1 := (hb46.block _ (blk_lt HX4.out.2.2.1)).trans HX4.out.2.2.1
    have q2 := (hp7.far (B9 + 1) (by omega)).trans q1
    exact (hB79.block _ (blk_lt q2)).trans q2
  obtain ⟨B18, hB18⟩ : ∃ B18, B18 = U7.heap.size := ⟨_, rfl⟩
  have h18 : U9.heap[B18]? = some (.cells #[.pointer (some ⟨p, 0, none⟩), .pointer (some ⟨q, 0, none⟩), v0, v1, v2, v3, v4, v5, u0, u1, u2, u3, u4, u5, u6, u7, u8] 49 (0, 0)) := by rw [hB18]; exact hp9.blk
  have hJ9 := hJ7.on hB79
  have hb11 := blk_lt h11
  have hw18 : w.heap.size ≤ B18 ∧ B9 + 1 < B18 := by
    have q1 := (hb46.block _ (blk_lt HX4.out.2.2.1)).trans HX4.out.2.2.1
    have q2 := blk_lt q1
    rw [hB18, hp7.size]
    omega
  have hrg := HRg.out
  have HWd : Hid (Wd w U9 (fun k => k = B9 + 1 ∨ k = B18) p aa bb q d9 (0 + az.toNat) (⟨(⟨ag, af, az⟩ : Ar), ep, [], 0, 0⟩ : Jr) rv ev x2 ra2 rc2 ea2 ec2 (⟨ag, af, az⟩ : Ar)) := ⟨hJ9, fun k hk hx => by
      rcases hx with e | e
      · exact hJ9.free h11 (by decide) (by decide) (by decide) (by decide) (by rw [← e]; exact hk)
      · exact hJ9.free h18 (by decide) (by decide) (by decide) (by decide) (by rw [← e]; exact hk), fun k hx => by rcases hx with e | e; rw [e]; exact hb11; rw [e]; exact blk_lt h18, ((hL5.on hB56).put hp7 (by decide) ⟨_, _, hg96⟩).on hB79, edF_nil _ _ _ _, hT5, ⟨hrg.r, hrg.s⟩, hrg.lf ⟨by show (0 : Int) ≤ 0; omega, by show (0 : Int) ≤ _; omega⟩, rfl, hrg.inn hin, fun _ => HCm.out, by
      have q1 := hp7.below (below_step HX4.out.2.2.2 hb46) (by omega)
      exact below_step q1 hB79⟩
  have H1 : Hid (∀ V, Below U9.heap.size U9 V → Run11 w (⟨ag, af, az⟩ : Ar) (fun k => k = B9 + 1 ∨ k = B18) p aa bb (B9 + 1) B18 0 V → Run11 w (⟨ag, af, az⟩ : Ar) (fun k => k = B9 + 1 ∨ k = B18) p aa bb (B9 + 1) B18 0 V) := fun _ _ h => h
  have HLs : Hid (Calls Tryz.prog 11 #[.slice xa 0 xc, .slice ya 0 yc] U9 fun e w' => e = .returned (.bool true) ∧ Below U9.heap.size U9 w') := lists_ xa ya [] 0 xc yc U9 rfl (by omega) (fun i hi => by simp at hi) (fun i hi => by simp at hi)
  have HLd9 := Lib.hid (load_rd hp7.blk rfl)
  have HLj := Lib.hid (load_rj hb15 rfl)
  have HS6 := Lib.hid hs6
  have HS7 := Lib.hid hs7
  have HS9 := Lib.hid hs9
  have HVU := Lib.hid (And.intro hv (And.intro hu (And.intro h18 h11)))
  clear hs6 hs7 hs9 hp6 hp7 hp9 hB56 hb46 hg96 hne9 hJ6 hn9 hJ7 hb15 hB79 h11 h18 hJ9 hb11 hrg hL5 hT5 hb5 hv hu hv1 hu1 HX4 HLd HLa HRo HCm HRg H1
  go_wp2_with (first
    | (refine wpList_store_at rfl 43 _ _ rfl _ _ rfl rfl HS6.out ?_)
    | (refine wpList_store_at rfl 33 _ _ rfl _ _ rfl rfl HS7.out ?_)
    | (refine wpList_load_at rfl 33 _ rfl _ _ rfl HLd9.out ?_)
    | (refine wpList_load_at rfl 43 _ rfl _ _ rfl HLj.out ?_)
    | (refine wpList_store_at rfl 49 _ _ rfl _ _ rfl rfl HS9.out ?_)
    | fail)
  refine HLs.out.mono ?_
  rintro e w10 ⟨rfl, hb10⟩
  have H1 : Hid (∀ K, az.toNat ≤ 12 * K → K ≤ 1 → K = 1 → Run11 w (⟨ag, af, az⟩ : Ar) (fun k => k = B9 + 1 ∨ k = B18) p aa bb (B9 + 1) B18 1 w10) := fun K hK hK1 hK2 => by
    subst hK2
    obtain ⟨hv, hu, h18, h11⟩ := HVU.out
    have hW := HWd.out.on hb10
    exact ⟨q, d9, (⟨(⟨ag, af, az⟩ : Ar), ep, [], 0, 0⟩ : Jr), rv, ev, x2, ra2, rc2, ea2, ec2, v0, v1, v2, v3, v4, v5, u0, u1, u2, u3, u4, u5, u6, u7, u8, ⟨hW.jn.mono (by omega) (by omega), hW.off, hW.lt, hW.ls, hW.ed, hW.tie, hW.rs, hW.lf, hW.ja, hW.inn, hW.calm, hW.bw⟩, hv, hu, (hb10.block _ (blk_lt h18)).trans h18, h11.on hb10⟩
  have H2 := Lib.hid (H1.out 1 (by omega) (Nat.le_refl _) rfl)
  clear HWd HVU hb10 HLs HLd9 HLj HS6 HS7 HS9 H1
  go_wp2_with fail
  try rw [← hB18]
  clear hB18
  go_loopw [19] (fun iv wr => ∃ i : Nat, iv = .int .i64 i ∧ i ≤ n ∧ i ≤ 60 ∧ Hid (Run11 w (⟨ag, af, az⟩ : Ar) (fun k => k = B9 + 1 ∨ k = B18) p aa bb (B9 + 1) B18 (i + 1) wr)) (fun iv _ => 60 - (intOf iv).toNat)
  case atStart => exact ⟨0, rfl, by omega, by omega, H2⟩
  case round =>
    obtain ⟨i, rfl, hin1, hi60, HS⟩ := hrel
    by_cases hgo : i < n ∧ i < 60
    · have q1 : decide ((i : Int) < (n : Int)) = true := decide_eq_true (by omega)
      have q2 : decide ((i : Int) < 60) = true := decide_eq_true (by omega)
      have q3 : (0 : Int) ≤ (i : Int) := by omega
      have q4 : (i : Int) < (n : Int) := by omega
      obtain ⟨q, d, J, rv, ev, x, ra, rc, ea, ec, v0, v1, v2, v3, v4, v5, u0, u1, u2, u3, u4, u5, u6, u7, u8, hWd, hv, hu, hg18, hgA⟩ := HS.out
      obtain ⟨b, o, hab, hx⟩ := HI.out i hgo.1
      subst hab
      have hx' := hx.on hWd.bw
      have hbw : b < w.heap.size := block_lt_of_cell hx.c0
      have hlm := HLm.out i hgo.1
      have hAk : AOk w (f i) := ⟨hx.data, hx.dn, hx.byte, hlm.1, hx.ints, hx.cn, hlm.2, hx.ai⟩
      have hmine : ∀ k, (Mine p aa bb q rv ev) k → w.heap.size ≤ k ∧ k < wr.heap.size := hWd.jn.mine
      have hnb : ¬ (Mine p aa bb q rv ev) b := fun m => by have := (hmine b m).1; omega
      have hn18 : ¬ (Mine p aa bb q rv ev) B18 := fun m => hWd.off _ m (.inr rfl)
      have hn11 : ¬ (Mine p aa bb q rv ev) (B9 + 1) := fun m => hWd.off _ m (.inl rfl)
      have HSt : Hid (∀ V X', Wd w V X' p aa bb q d (12 * (i + 1)) J rv ev x ra rc ea ec (⟨ag, af, az⟩ : Ar) → Calls Tryz.prog 12 #[.agg #[.pointer (some ⟨p, 0, none⟩), .pointer (some ⟨q, 0, none⟩), v0, v1, v2, v3, v4, v5, u0, u1, u2, u3, u4, u5, u6, u7, u8], arV (⟨ag, af, az⟩ : Ar), actV (f i)] V (StTo w V X' (Mine p aa bb q rv ev) p aa bb (12 * (i + 1)) (⟨ag, af, az⟩ : Ar))) := fun V X' hV => step_ hV hAk HE.out (by omega) hv (rd_of hv) hu (rj_of hu).2.2.2
      unfold actV arV at HSt
      dsimp only at HSt
      have HWd := Lib.hid hWd
      have HG18 := Lib.hid hg18
      have HGA := Lib.hid hgA
      have HMi := Lib.hid hmine
      have SL : Hid (∀ V, (∃ M', Ext (Mine p aa bb q rv ev) M' wr V) → (Instr.loadAt 49 (.pointer (some ⟨B18, 0, none⟩))).run Tryz.prog V = .ok (.agg #[.pointer (some ⟨p, 0, none⟩), .pointer (some ⟨q, 0, none⟩), v0, v1, v2, v3, v4, v5, u0, u1, u2, u3, u4, u5, u6, u7, u8]) V) := fun V ⟨M', hV⟩ => load_wd ((hV.block _ (blk_lt hg18) hn18).trans hg18) rfl
      have SA : Hid (∀ V, (∃ M', Ext (Mine p aa bb q rv ev) M' wr V) → (Instr.loadAt 36 (.pointer (some ⟨B9 + 1, 0, none⟩))).run Tryz.prog V = .ok (.agg #[.int .i64 ag, .int .i64 af, .int .i64 az]) V) := fun V ⟨M', hV⟩ => load_pa3 ((hV.block _ (blk_lt hgA) hn11).trans hgA)
      have F0 : Hid (∀ V, (∃ M', Ext (Mine p aa bb q rv ev) M' wr V) → V.cell? ⟨b, o + i * 4, none⟩ = some (.int .i64 (f i).kind)) := fun V ⟨M', hV⟩ => (cell_block (hV.block b (block_lt_of_cell hx'.c0) hnb)).trans hx'.c0
      have F1 : Hid (∀ V, (∃ M', Ext (Mine p aa bb q rv ev) M' wr V) → V.cell? ⟨b, o + i * 4 + 1, none⟩ = some (.int .i64 (f i).at')) := fun V ⟨M', hV⟩ => (cell_block (hV.block b (block_lt_of_cell hx'.c0) hnb)).trans hx'.c1
      have F2 : Hid (∀ V, (∃ M', Ext (Mine p aa bb q rv ev) M' wr V) → V.cell? ⟨b, o + i * 4 + 2, none⟩ = some (.slice (f i).da (f i).dxs.length (f i).dc)) := fun V ⟨M', hV⟩ => (cell_block (hV.block b (block_lt_of_cell hx'.c0) hnb)).trans hx'.c2
      have F3 : Hid (∀ V, (∃ M', Ext (Mine p aa bb q rv ev) M' wr V) → V.cell? ⟨b, o + i * 4 + 3, none⟩ = some (.slice (f i).ca (f i).cs.length (f i).cc)) := fun V ⟨M', hV⟩ => (cell_block (hV.block b (block_lt_of_cell hx'.c0) hnb)).trans hx'.c3
      generalize (f i).kind = kd at *
      generalize (f i).at' = at' at *
      generalize (f i).da = da at *
      generalize (f i).dxs.length = dn at *
      generalize (f i).dc = dc at *
      generalize (f i).ca = ca at *
      generalize (f i).cs.length = cn at *
      generalize (f i).cc = cc at *
      clear hWd hv hu hg18 hgA hx hx' hAk hlm HS hmine hnb
      go_wp2_with fail
      refine wp_region_noPanic ?_
      refine wp_region_held_drew (S := fun V => ∃ M', Ext (Mine p aa bb q rv ev) M' wr V) (by kernel_rfl) ⟨_, Ext.of_below _ (below_drew _)⟩ (fun hHeld => ?_)
      refine tk 0 (.agg #[.pointer (some ⟨p, 0, none⟩), .pointer (some ⟨q, 0, none⟩), v0, v1, v2, v3, v4, v5, u0, u1, u2, u3, u4, u5, u6, u7, u8]) (hy := (yields_load (by rfl) 49 _ (by rfl) _ _ (by rfl) (SL.out))) (h := ?_)
      refine tk 1 (.agg #[.int .i64 ag, .int .i64 af, .int .i64 az]) (hy := (yields_load (by rfl) 36 _ (by rfl) _ _ (by rfl) (SA.out))) (h := ?_)
      refine tk 2 (.slice (some ⟨b, o, none⟩) n c) (h := ?_)
      refine tk 3 (.int .i64 i) (h := ?_)
      refine tk 4 (.pointer (some ⟨b, o + i * 4, none⟩)) (h := ?_)
      refine take_at 5 (.agg #[.int .i64 kd, .int .i64 at', .slice da dn dc, .slice ca cn cc]) rfl (by kernel_rfl) (by kernel_rfl) (by kernel_rfl) (fun _ _ _ h => h) (Or.inl ⟨by rfl, ?_⟩) (by assumption) ?_
      · intro V hSV; have e0 := F0.out V hSV; have e1 := F1.out V hSV; have e2 := F2.out V hSV; have e3 := F3.out V hSV; go_simp
      simp only [Act.put, List.setIfInBounds_toArray, List.set_cons_zero, List.set_cons_succ]
      clear F0 F1 F2 F3 SL SA
      refine wpAnyH_ready (rs := [6, 10]) (by kernel_rfl) (by simp) ?_
      refine AllReadyH.cons rfl (fun KK hK => ?_) (AllReadyH.cons rfl (fun KK hK => ?_) AllReadyH.nil)
      · go_simp
        go_wp2_with (first | (go_at_call 12; refine (HSt.out wr.drew (fun k => k = B9 + 1 ∨ k = B18) (HWd.out.on (below_drew _))).mono ?_; rintro e U2 ⟨q', d', J', rv', ev', x', ra', rc', ea', ec', v0', v1', v2', v3', v4', v5', u0', u1', u2', u3', u4', u5', u6', u7', u8', rfl, hv', hu', hWd', hEx'⟩))
        refine hK.out _ _ ?_ (fun hHeld6 => ?_)
        · exact ⟨_, (Ext.of_below _ (below_drew _)).trans hEx'⟩
        clear hK KK
        obtain ⟨U4, hst, hput⟩ := put_wd (cs := #[.pointer (some ⟨p, 0, none⟩), .pointer (some ⟨q', 0, none⟩), v0', v1', v2', v3', v4', v5', u0', u1', u2', u3', u4', u5', u6', u7', u8']) (alloc_at U2 (.cells #[.pointer none, .pointer none, .int .i64 0, .int .i64 0, .slice none 0 0, .bool false, .bool false, .int .i64 0, .int .i64 0, .int .i64 0, .int .i64 0, .int .u64 0, .string ⟨#[]⟩, .slice none 0 0, .int .i64 0, .int .i64 0, .int .i64 0] 49)) rfl rfl (wd_all (pv := .pointer (some ⟨p, 0, none⟩)) (qv := .pointer (some ⟨q', 0, none⟩)) (rd_of hv') (rj_of hu').2.2.2 rfl rfl)
        have hx24 := (Ext.of_below (Mine p aa bb q rv ev) (below_drew wr)).trans hEx'
        have hB24 : Below U2.heap.size U2 U4 := hput.below (below_alloc U2 (.cells #[.pointer none, .pointer none, .int .i64 0, .int .i64 0, .slice none 0 0, .bool false, .bool false, .int .i64 0, .int .i64 0, .int .i64 0, .int .i64 0, .int .u64 0, .string ⟨#[]⟩, .slice none 0 0, .int .i64 0, .int .i64 0, .int .i64 0] 49)) (Nat.le_refl _)
        have hSa : ∃ M', Ext (Mine p aa bb q rv ev) M' wr (U2.alloc (.cells #[.pointer none, .pointer none, .int .i64 0, .int .i64 0, .slice none 0 0, .bool false, .bool false, .int .i64 0, .int .i64 0, .int .i64 0, .int .i64 0, .int .u64 0, .string ⟨#[]⟩, .slice none 0 0, .int .i64 0, .int .i64 0, .int .i64 0] 49)) := ⟨_, hx24.trans (Ext.of_below _ (below_alloc U2 _))⟩
        have hSs : ∃ M', Ext (Mine p aa bb q rv ev) M' wr U4 := ⟨_, hx24.trans (Ext.of_below _ hB24)⟩
        have h18 := (hx24.block _ (blk_lt HG18.out) hn18).trans HG18.out
        have h11 := (hx24.block _ (blk_lt HGA.out) hn11).trans HGA.out
        obtain ⟨BX, hBX⟩ : ∃ BX, BX = U2.heap.size := ⟨_, rfl⟩
        have HU : Hid (Wd w U4 (fun k => k = B9 + 1 ∨ k = B18) p aa bb q' d' (12 * (i + 1) + 12) J' rv' ev' x' ra' rc' ea' ec' (⟨ag, af, az⟩ : Ar) ∧ U4.heap[BX]? = some (.cells #[.pointer (some ⟨p, 0, none⟩), .pointer (some ⟨q', 0, none⟩), v0', v1', v2', v3', v4', v5', u0', u1', u2', u3', u4', u5', u6', u7', u8'] 49 (0, 0)) ∧ U4.heap[B18]? = some (.cells #[.pointer (some ⟨p, 0, none⟩), .pointer (some ⟨q, 0, none⟩), v0, v1, v2, v3, v4, v5, u0, u1, u2, u3, u4, u5, u6, u7, u8] 49 (0, 0)) ∧ ArAt U4 (B9 + 1) (⟨ag, af, az⟩ : Ar) ∧ rdV x' ra' rc' = .agg #[v0', v1', v2', v3', v4', v5'] ∧ rjV J' ea' ec' = .agg #[u0', u1', u2', u3', u4', u5', u6', u7', u8'] ∧ BX ≠ B18) := by
          refine ⟨hWd'.on hB24, by rw [hBX]; exact hput.blk, (hB24.block _ (blk_lt h18)).trans h18, (hB24.block _ (blk_lt h11)).trans h11, hv', hu', ?_⟩
          rw [hBX]; have := blk_lt h18; omega
        clear hB24 h18 h11 hx24 hWd' hEx' hv' hu'
        refine tk 7 (.tuple #[.agg #[.pointer (some ⟨p, 0, none⟩), .pointer (some ⟨q', 0, none⟩), v0', v1', v2', v3', v4', v5', u0', u1', u2', u3', u4', u5', u6', u7', u8'], .bool true]) (h := ?_)
        refine tk 8 (.agg #[.pointer (some ⟨p, 0, none⟩), .pointer (some ⟨q', 0, none⟩), v0', v1', v2', v3', v4', v5', u0', u1', u2', u3', u4', u5', u6', u7', u8']) (h := ?_)
        refine tk 9 (.bool true) (h := ?_)
        refine ready_alloc_wd 10 rfl (by kernel_rfl) (by rfl) (by rfl) hSa ?_
        refine ready_store 11 rfl (by kernel_rfl) (by rfl) 49 _ _ (by rfl) _ _ (by rfl) (by rfl) hst hSs ?_
        refine tk 12 (.bool true) (h := ?_)
        refine wpAnyH_done (by kernel_rfl) ?_ _
        refine NoPanic.normal ?_
        rw [← hBX]
        clear hst hSa hSs hput hBX hHeld hHeld6 HSt HWd HG18 HGA HMi hn18 hn11
        obtain ⟨U5, hs5, hp5⟩ := put_wd (cs := #[.pointer (some ⟨p, 0, none⟩), .pointer (some ⟨q', 0, none⟩), v0', v1', v2', v3', v4', v5', u0', u1', u2', u3', u4', u5', u6', u7', u8']) HU.out.2.2.1 rfl rfl (wd_all (pv := .pointer (some ⟨p, 0, none⟩)) (qv := .pointer (some ⟨q', 0, none⟩)) (rd_of HU.out.2.2.2.2.1) (rj_of HU.out.2.2.2.2.2.1).2.2.2 rfl rfl)
        have hW5 := HU.out.1.put hp5 (.inr rfl) HU.out.2.2.1 (by decide) (by omega)
        have hA5 : ArAt U5 (B9 + 1) (⟨ag, af, az⟩ : Ar) := (hp5.far _ (by omega)).trans HU.out.2.2.2.1
        have HLx := Lib.hid (load_wd HU.out.2.1 rfl)
        have HS5 := Lib.hid hs5
        have HW5 := Lib.hid hW5
        have HR1 : Hid (∀ V, Below U5.heap.size U5 V → Run11 w (⟨ag, af, az⟩ : Ar) (fun k => k = B9 + 1 ∨ k = B18) p aa bb (B9 + 1) B18 (i + 1 + 1) V) := fun V hV => ⟨q', d', J', rv', ev', x', ra', rc', ea', ec', v0', v1', v2', v3', v4', v5', u0', u1', u2', u3', u4', u5', u6', u7', u8', by rw [show 12 * (i + 1 + 1) = 12 * (i + 1) + 12 by omega]; exact hW5.on hV, HU.out.2.2.2.2.1, HU.out.2.2.2.2.2.1, (hV.block _ (blk_lt hp5.blk)).trans hp5.blk, hA5.on hV⟩
        obtain ⟨e3, e4, e7, _⟩ := rj_of HU.out.2.2.2.2.2.1
        have hokJ := hW5.jn.jr.ok
        have hJ5 := hW5.jn.jr
        have HLen : Hid (∀ V, Below U5.heap.size U5 V → Calls Tryz.prog 13 #[.pointer (some ⟨q', 0, none⟩)] V fun e w' => e = .returned (.int .i64 (J'.row.length : Nat)) ∧ Below V.heap.size V w') := fun V hV => (jlen_ (hJ5.on hV)).mono fun e w' ⟨k1, k2⟩ => ⟨k1, by rw [k2]; exact Below.refl _ _⟩
        have HRoom : Hid (∀ V, Below U5.heap.size U5 V → Calls Tryz.prog 14 #[.pointer (some ⟨q', 0, none⟩)] V fun e w' => e = .returned (.int .i64 (64 * J'.a.s - (J'.row.length : Nat))) ∧ Below V.heap.size V w') := fun V hV => jroom_ (hJ5.on hV)
        have HRr : Hid (∀ V, Calls Tryz.prog 15 #[.agg #[u0', u1', u2', u3', u4', u5', u6', u7', u8']] V fun e w' => e = .returned (.int .i64 (64 * J'.a.s - (J'.row.length : Nat))) ∧ Below V.heap.size V w') := fun V => by
          have qq := rroom_ hokJ ea' ec' V
          rw [HU.out.2.2.2.2.2.1] at qq
          exact qq
        have HWt : Hid (∀ V, Below U5.heap.size U5 V → Calls Tryz.prog 16 #[.pointer (some ⟨q', 0, none⟩)] V fun e w' => e = .returned (.int .i64 ((J'.pss.length - J'.sf : Nat) : Int)) ∧ Below V.heap.size V w') := fun V hV => jwaits_ (hJ5.on hV)
        have HEp : Hid (∀ V, Below U5.heap.size U5 V → Calls Tryz.prog 17 #[.pointer (some ⟨q', 0, none⟩)] V fun e w' => e = .returned (.int .u64 (J'.ep : Nat)) ∧ Below V.heap.size V w') := fun V hV => (jepoch_ (hJ5.on hV)).mono fun e w' ⟨k1, k2⟩ => ⟨k1, by rw [k2]; exact Below.refl _ _⟩
        have G1 : Hid (∀ V, Below U5.heap.size U5 V → V.cell? ⟨B18, 1, none⟩ = some (.pointer (some ⟨q', 0, none⟩))) := fun V hV => cell_of ((hV.block _ (blk_lt hp5.blk)).trans hp5.blk) rfl
        have G12 : Hid (∀ V, Below U5.heap.size U5 V → V.cell? ⟨B18, 12, none⟩ = some (.string (bs J'.row))) := fun V hV => by rw [← e4]; exact cell_of ((hV.block _ (blk_lt hp5.blk)).trans hp5.blk) rfl
        have G15 : Hid (∀ V, Below U5.heap.size U5 V → V.cell? ⟨B18, 15, none⟩ = some (.int .i64 ((J'.pss.length - J'.sf : Nat) : Int))) := fun V hV => by rw [← e7]; exact cell_of ((hV.block _ (blk_lt hp5.blk)).trans hp5.blk) rfl
        have G11 : Hid (∀ V, Below U5.heap.size U5 V → V.cell? ⟨B18, 11, none⟩ = some (.int .u64 (J'.ep : Nat))) := fun V hV => by rw [← e3]; exact cell_of ((hV.block _ (blk_lt hp5.blk)).trans hp5.blk) rfl
        have GJ : Hid (∀ V, Below U5.heap.size U5 V → (Instr.loadAt 43 (.pointer (some ⟨B18, 8, none⟩))).run Tryz.prog V = .ok (.agg #[u0', u1', u2', u3', u4', u5', u6', u7', u8']) V) := fun V hV => load_wj ((hV.block _ (blk_lt hp5.blk)).trans hp5.blk)
        have hsz : (bs J'.row).size = J'.row.length := bs_size _
        clear hW5 hA5 hs5 hp5 hokJ hJ5 e3 e4 e7 HW5 HU
        generalize bs J'.row = RR at *
        generalize 64 * J'.a.s - (J'.row.length : Nat) = rm at *
        generalize J'.row.length = L at *
        generalize J'.pss.length - J'.sf = wt at *
        generalize J'.ep = ep' at *
        go_wp2_with (first
          | (refine wpList_load_at rfl 49 _ rfl _ _ rfl HLx.out ?_)
          | (refine wpList_store_at rfl 49 _ _ rfl _ _ rfl rfl HS5.out ?_)
          | fail)
        clear HLx HS5
        refine wp_region_noPanic ?_
        refine wp_region_held_drew (S := fun V => Below U5.heap.size U5 V) (by kernel_rfl) (below_drew _) (fun hHeld => ?_)
        refine tk 0 (.bool true) (h := ?_)
        refine tk 1 (.bool false) (h := ?_)
        refine tk 2 (.bool false) (h := ?_)
        refine tk 3 (.pointer (some ⟨B18, 1, none⟩)) (h := ?_)
        refine take_at 4 (.pointer (some ⟨q', 0, none⟩)) rfl (by kernel_rfl) (by kernel_rfl) (by kernel_rfl) (fun _ _ _ h => h) (Or.inl ⟨by rfl, ?_⟩) (by assumption) ?_
        · intro V hSV; have e0 := G1.out V hSV; go_simp
        simp only [Act.put, List.setIfInBounds_toArray, List.set_cons_zero, List.set_cons_succ]
        refine tk 6 (.pointer (some ⟨B18, 8, none⟩)) (h := ?_)
        refine tk 7 (.pointer (some ⟨B18, 12, none⟩)) (h := ?_)
        refine take_at 8 (.string RR) rfl (by kernel_rfl) (by kernel_rfl) (by kernel_rfl) (fun _ _ _ h => h) (Or.inl ⟨by rfl, ?_⟩) (by assumption) ?_
        · intro V hSV; have e0 := G12.out V hSV; go_simp
        simp only [Act.put, List.setIfInBounds_toArray, List.set_cons_zero, List.set_cons_succ]
        refine tk 9 (.int .i64 (L : Nat)) (h := ?_)
        refine wpAnyH_ready (rs := [5]) (by kernel_rfl) (by simp) ?_
        refine AllReadyH.cons rfl (fun KK hK => ?_) AllReadyH.nil
        go_simp
        go_wp2_with (first | (go_at_call 13; refine (HLen.out _ (by assumption)).mono ?_; rintro e Y1 ⟨rfl, hy1⟩))
        refine hK.out _ _ ?_ (fun hHeld5 => ?_)
        · exact below_step (by assumption) hy1
        clear hK KK
        refine tk 10 (.bool false) (h := ?_)
        refine tk 11 (.bool false) (h := ?_)
        refine tk 12 (.bool false) (h := ?_)
        refine tk 13 (.pointer (some ⟨B18, 1, none⟩)) (h := ?_)
        refine take_at 14 (.pointer (some ⟨q', 0, none⟩)) rfl (by kernel_rfl) (by kernel_rfl) (by kernel_rfl) (fun _ _ _ h => h) (Or.inl ⟨by rfl, ?_⟩) (by assumption) ?_
        · intro V hSV; have e0 := G1.out V hSV; go_simp
        simp only [Act.put, List.setIfInBounds_toArray, List.set_cons_zero, List.set_cons_succ]
        refine tk 16 (.pointer (some ⟨B18, 8, none⟩)) (h := ?_)
        refine tk 17 (.agg #[u0', u1', u2', u3', u4', u5', u6', u7', u8']) (hy := (yields_load (by rfl) 43 _ (by rfl) _ _ (by rfl) (GJ.out))) (h := ?_)
        refine wpAnyH_ready (rs := [15]) (by kernel_rfl) (by simp) ?_
        refine AllReadyH.cons rfl (fun KK hK => ?_) AllReadyH.nil
        go_simp
        go_wp2_with (first | (go_at_call 14; refine (HRoom.out _ (by assumption)).mono ?_; rintro e Y2 ⟨rfl, hy2⟩))
        refine hK.out _ _ ?_ (fun hHeld15 => ?_)
        · exact below_step (by assumption) hy2
        clear hK KK
        refine wpAnyH_ready (rs := [18]) (by kernel_rfl) (by simp) ?_
        refine AllReadyH.cons rfl (fun KK hK => ?_) AllReadyH.nil
        go_simp
        go_wp2_with (first | (go_at_call 15; refine (HRr.out _).mono ?_; rintro e Y3 ⟨rfl, hy3⟩))
        refine hK.out _ _ ?_ (fun hHeld18 => ?_)
        · exact below_step (by assumption) hy3
        clear hK KK
        refine tk 19 (.bool false) (h := ?_)
        refine tk 20 (.bool false) (h := ?_)
        refine tk 21 (.bool false) (h := ?_)
        refine tk 22 (.pointer (some ⟨B18, 1, none⟩)) (h := ?_)
        refine take_at 23 (.pointer (some ⟨q', 0, none⟩)) rfl (by kernel_rfl) (by kernel_rfl) (by kernel_rfl) (fun _ _ _ h => h) (Or.inl ⟨by rfl, ?_⟩) (by assumption) ?_
        · intro V hSV; have e0 := G1.out V hSV; go_simp
        simp only [Act.put, List.setIfInBounds_toArray, List.set_cons_zero, List.set_cons_succ]
        refine tk 25 (.pointer (some ⟨B18, 8, none⟩)) (h := ?_)
        refine tk 26 (.pointer (some ⟨B18, 15, none⟩)) (h := ?_)
        refine take_at 27 (.int .i64 (wt : Nat)) rfl (by kernel_rfl) (by kernel_rfl) (by kernel_rfl) (fun _ _ _ h => h) (Or.inl ⟨by rfl, ?_⟩) (by assumption) ?_
        · intro V hSV; have e0 := G15.out V hSV; go_simp
        simp only [Act.put, List.setIfInBounds_toArray, List.set_cons_zero, List.set_cons_succ]
        refine wpAnyH_ready (rs := [24]) (by kernel_rfl) (by simp) ?_
        refine AllReadyH.cons rfl (fun KK hK => ?_) AllReadyH.nil
        go_simp
        go_wp2_with (first | (go_at_call 16; refine (HWt.out _ (by assumption)).mono ?_; rintro e Y4 ⟨rfl, hy4⟩))
        refine hK.out _ _ ?_ (fun hHeld24 => ?_)
        · exact below_step (by assumption) hy4
        clear hK KK
        refine tk 28 (.bool false) (h := ?_)
        refine tk 29 (.bool false) (h := ?_)
        refine tk 30 (.bool false) (h := ?_)
        refine tk 31 (.pointer (some ⟨B18, 1, none⟩)) (h := ?_)
        refine take_at 32 (.pointer (some ⟨q', 0, none⟩)) rfl (by kernel_rfl) (by kernel_rfl) (by kernel_rfl) (fun _ _ _ h => h) (Or.inl ⟨by rfl, ?_⟩) (by assumption) ?_
        · intro V hSV; have e0 := G1.out V hSV; go_simp
        simp only [Act.put, List.setIfInBounds_toArray, List.set_cons_zero, List.set_cons_succ]
        refine tk 34 (.pointer (some ⟨B18, 8, none⟩)) (h := ?_)
        refine tk 35 (.pointer (some ⟨B18, 11, none⟩)) (h := ?_)
        refine take_at 36 (.int .u64 (ep' : Nat)) rfl (by kernel_rfl) (by kernel_rfl) (by kernel_rfl) (fun _ _ _ h => h) (Or.inl ⟨by rfl, ?_⟩) (by assumption) ?_
        · intro V hSV; have e0 := G11.out V hSV; go_simp
        simp only [Act.put, List.setIfInBounds_toArray, List.set_cons_zero, List.set_cons_succ]
        refine wpAnyH_ready (rs := [33]) (by kernel_rfl) (by simp) ?_
        refine AllReadyH.cons rfl (fun KK hK => ?_) AllReadyH.nil
        go_simp
        go_wp2_with (first | (go_at_call 17; refine (HEp.out _ (by assumption)).mono ?_; rintro e Y5 ⟨rfl, hy5⟩))
        refine hK.out _ _ ?_ (fun hHeld33 => ?_)
        · exact below_step (by assumption) hy5
        clear hK KK
        refine tk 37 (.bool false) (h := ?_)
        refine tk 38 (.bool false) (h := ?_)
        refine wpAnyH_done (by kernel_rfl) ?_ _
        refine NoPanic.normal ?_
        have HR2 := Lib.hid (HR1.out _ hHeld33)
        clear hHeld hHeld5 hHeld15 hHeld18 hHeld24 hHeld33 hy1 hy2 hy3 hy4 hy5 HLen HRoom HRr HWt HEp G1 G12 G15 G11 GJ HR1
        go_wp2_with fail
        go_roundw
        case rel => exact ⟨i + 1, by go_num, by omega, by omega, HR2⟩
        case measure => simp [intOf]; omega
      · go_simp
        have hBz : Below wr.heap.size wr (wr.alloc (.cells #[.pointer none, .pointer none, .int .i64 0, .int .i64 0, .slice none 0 0, .bool false, .bool false, .int .i64 0, .int .i64 0, .int .i64 0, .int .i64 0, .int .u64 0, .string ⟨#[]⟩, .slice none 0 0, .int .i64 0, .int .i64 0, .int .i64 0] 49)).drew := below_step (below_alloc _ _) (below_drew _)
        refine hK.out _ _ ?_ (fun hHeld10 => ?_)
        · exact ⟨_, Ext.of_below _ hBz⟩
        clear hK KK
        have hz0 : ((wr.alloc (.cells #[.pointer none, .pointer none, .int .i64 0, .int .i64 0, .slice none 0 0, .bool false, .bool false, .int .i64 0, .int .i64 0, .int .i64 0, .int .i64 0, .int .u64 0, .string ⟨#[]⟩, .slice none 0 0, .int .i64 0, .int .i64 0, .int .i64 0] 49)).drew).heap[wr.heap.size]? = some (.cells #[.pointer none, .pointer none, .int .i64 0, .int .i64 0, .slice none 0 0, .bool false, .bool false, .int .i64 0, .int .i64 0, .int .i64 0, .int .i64 0, .int .u64 0, .string ⟨#[]⟩, .slice none 0 0, .int .i64 0, .int .i64 0, .int .i64 0] 49 (0, 0)) := alloc_at wr _
        have HBz := Lib.hid (And.intro hBz hz0)
        have HSz := Lib.hid (HSt.out _ _ (HWd.out.more hBz))
        clear hBz hz0
        generalize (wr.alloc (.cells #[.pointer none, .pointer none, .int .i64 0, .int .i64 0, .slice none 0 0, .bool false, .bool false, .int .i64 0, .int .i64 0, .int .i64 0, .int .i64 0, .int .u64 0, .string ⟨#[]⟩, .slice none 0 0, .int .i64 0, .int .i64 0, .int .i64 0] 49)).drew = Uz at *
        refine wpAnyH_ready (rs := [6]) (by kernel_rfl) (by simp) ?_
        refine AllReadyH.cons rfl (fun KK hK => ?_) AllReadyH.nil
        go_simp
        go_wp2_with (first | (go_at_call 12; refine HSz.out.mono ?_; rintro e U2 ⟨q', d', J', rv', ev', x', ra', rc', ea', ec', v0', v1', v2', v3', v4', v5', u0', u1', u2', u3', u4', u5', u6', u7', u8', rfl, hv', hu', hWd', hEx'⟩))
        refine hK.out _ _ ?_ (fun hHeld6 => ?_)
        · exact ⟨_, (Ext.of_below _ HBz.out.1).trans hEx'⟩
        clear hK KK
        have hx24 := (Ext.of_below (Mine p aa bb q rv ev) HBz.out.1).trans hEx'
        have hzn : ¬ (Mine p aa bb q rv ev) wr.heap.size := fun m => by have := (HMi.out _ m).2; omega
        have hz2 := (hEx'.block _ (blk_lt HBz.out.2) hzn).trans HBz.out.2
        obtain ⟨U4, hst, hput⟩ := put_wd (cs := #[.pointer (some ⟨p, 0, none⟩), .pointer (some ⟨q', 0, none⟩), v0', v1', v2', v3', v4', v5', u0', u1', u2', u3', u4', u5', u6', u7', u8']) hz2 rfl rfl (wd_all (pv := .pointer (some ⟨p, 0, none⟩)) (qv := .pointer (some ⟨q', 0, none⟩)) (rd_of hv') (rj_of hu').2.2.2 rfl rfl)
        have hSs : ∃ M', Ext (Mine p aa bb q rv ev) M' wr U4 := ⟨fun k => False, hput.os.trans hx24.os, hput.tape.trans hx24.tape, hput.output.trans hx24.output, by rw [hput.size]; exact hx24.size, fun k hk hn => (hput.far k (by omega)).trans (hx24.block k hk hn), fun k hk => hk.elim⟩
        have h18 := (hx24.block _ (blk_lt HG18.out) hn18).trans HG18.out
        have h11 := (hx24.block _ (blk_lt HGA.out) hn11).trans HGA.out
        have hb18 := blk_lt HG18.out
        have hb11 : B9 + 1 < wr.heap.size := blk_lt HGA.out
        obtain ⟨BX, hBX⟩ : ∃ BX, BX = wr.heap.size := ⟨_, rfl⟩
        have HU : Hid (Wd w U4 (fun k => k = B9 + 1 ∨ k = B18) p aa bb q' d' (12 * (i + 1) + 12) J' rv' ev' x' ra' rc' ea' ec' (⟨ag, af, az⟩ : Ar) ∧ U4.heap[BX]? = some (.cells #[.pointer (some ⟨p, 0, none⟩), .pointer (some ⟨q', 0, none⟩), v0', v1', v2', v3', v4', v5', u0', u1', u2', u3', u4', u5', u6', u7', u8'] 49 (0, 0)) ∧ U4.heap[B18]? = some (.cells #[.pointer (some ⟨p, 0, none⟩), .pointer (some ⟨q, 0, none⟩), v0, v1, v2, v3, v4, v5, u0, u1, u2, u3, u4, u5, u6, u7, u8] 49 (0, 0)) ∧ ArAt U4 (B9 + 1) (⟨ag, af, az⟩ : Ar) ∧ rdV x' ra' rc' = .agg #[v0', v1', v2', v3', v4', v5'] ∧ rjV J' ea' ec' = .agg #[u0', u1', u2', u3', u4', u5', u6', u7', u8'] ∧ BX ≠ B18) := by
          refine ⟨(hWd'.put hput (.inr ⟨Nat.le_refl _, by have := blk_lt HBz.out.2; omega⟩) hz2 (by decide) (by have := HWd.out.bw.size; omega)).less (fun k hk => .inl hk), by rw [hBX]; exact hput.blk, (hput.far _ (by omega)).trans h18, (hput.far _ (by omega)).trans h11, hv', hu', by omega⟩
        clear h18 h11 hx24 hWd' hEx' hv' hu' hz2 hzn hb18 hb11 HBz HSz
        refine tk 7 (.tuple #[.agg #[.pointer (some ⟨p, 0, none⟩), .pointer (some ⟨q', 0, none⟩), v0', v1', v2', v3', v4', v5', u0', u1', u2', u3', u4', u5', u6', u7', u8'], .bool true]) (h := ?_)
        refine tk 8 (.agg #[.pointer (some ⟨p, 0, none⟩), .pointer (some ⟨q', 0, none⟩), v0', v1', v2', v3', v4', v5', u0', u1', u2', u3', u4', u5', u6', u7', u8']) (h := ?_)
        refine tk 9 (.bool true) (h := ?_)
        refine ready_store 11 rfl (by kernel_rfl) (by rfl) 49 _ _ (by rfl) _ _ (by rfl) (by rfl) hst hSs ?_
        refine tk 12 (.bool true) (h := ?_)
        refine wpAnyH_done (by kernel_rfl) ?_ _
        refine NoPanic.normal ?_
        rw [← hBX]
        clear hst hSs hput hBX hHeld hHeld6 hHeld10 HSt HWd HG18 HGA HMi hn18 hn11
        obtain ⟨U5, hs5, hp5⟩ := put_wd (cs := #[.pointer (some ⟨p, 0, none⟩), .pointer (some ⟨q', 0, none⟩), v0', v1', v2', v3', v4', v5', u0', u1', u2', u3', u4', u5', u6', u7', u8']) HU.out.2.2.1 rfl rfl (wd_all (pv := .pointer (some ⟨p, 0, none⟩)) (qv := .pointer (some ⟨q', 0, none⟩)) (rd_of HU.out.2.2.2.2.1) (rj_of HU.out.2.2.2.2.2.1).2.2.2 rfl rfl)
        have hW5 := HU.out.1.put hp5 (.inr rfl) HU.out.2.2.1 (by decide) (by omega)
        have hA5 : ArAt U5 (B9 + 1) (⟨ag, af, az⟩ : Ar) := (hp5.far _ (by omega)).trans HU.out.2.2.2.1
        have HLx := Lib.hid (load_wd HU.out.2.1 rfl)
        have HS5 := Lib.hid hs5
        have HW5 := Lib.hid hW5
        have HR1 : Hid (∀ V, Below U5.heap.size U5 V → Run11 w (⟨ag, af, az⟩ : Ar) (fun k => k = B9 + 1 ∨ k = B18) p aa bb (B9 + 1) B18 (i + 1 + 1) V) := fun V hV => ⟨q', d', J', rv', ev', x', ra', rc', ea', ec', v0', v1', v2', v3', v4', v5', u0', u1', u2', u3', u4', u5', u6', u7', u8', by rw [show 12 * (i + 1 + 1) = 12 * (i + 1) + 12 by omega]; exact hW5.on hV, HU.out.2.2.2.2.1, HU.out.2.2.2.2.2.1, (hV.block _ (blk_lt hp5.blk)).trans hp5.blk, hA5.on hV⟩
        obtain ⟨e3, e4, e7, _⟩ := rj_of HU.out.2.2.2.2.2.1
        have hokJ := hW5.jn.jr.ok
        have hJ5 := hW5.jn.jr
        have HLen : Hid (∀ V, Below U5.heap.size U5 V → Calls Tryz.prog 13 #[.pointer (some ⟨q', 0, none⟩)] V fun e w' => e = .returned (.int .i64 (J'.row.length : Nat)) ∧ Below V.heap.size V w') := fun V hV => (jlen_ (hJ5.on hV)).mono fun e w' ⟨k1, k2⟩ => ⟨k1, by rw [k2]; exact Below.refl _ _⟩
        have HRoom : Hid (∀ V, Below U5.heap.size U5 V → Calls Tryz.prog 14 #[.pointer (some ⟨q', 0, none⟩)] V fun e w' => e = .returned (.int .i64 (64 * J'.a.s - (J'.row.length : Nat))) ∧ Below V.heap.size V w') := fun V hV => jroom_ (hJ5.on hV)
        have HRr : Hid (∀ V, Calls Tryz.prog 15 #[.agg #[u0', u1', u2', u3', u4', u5', u6', u7', u8']] V fun e w' => e = .returned (.int .i64 (64 * J'.a.s - (J'.row.length : Nat))) ∧ Below V.heap.size V w') := fun V => by
          have qq := rroom_ hokJ ea' ec' V
          rw [HU.out.2.2.2.2.2.1] at qq
          exact qq
        have HWt : Hid (∀ V, Below U5.heap.size U5 V → Calls Tryz.prog 16 #[.pointer (some ⟨q', 0, none⟩)] V fun e w' => e = .returned (.int .i64 ((J'.pss.length - J'.sf : Nat) : Int)) ∧ Below V.heap.size V w') := fun V hV => jwaits_ (hJ5.on hV)
        have HEp : Hid (∀ V, Below U5.heap.size U5 V → Calls Tryz.prog 17 #[.pointer (some ⟨q', 0, none⟩)] V fun e w' => e = .returned (.int .u64 (J'.ep : Nat)) ∧ Below V.heap.size V w') := fun V hV => (jepoch_ (hJ5.on hV)).mono fun e w' ⟨k1, k2⟩ => ⟨k1, by rw [k2]; exact Below.refl _ _⟩
        have G1 : Hid (∀ V, Below U5.heap.size U5 V → V.cell? ⟨B18, 1, none⟩ = some (.pointer (some ⟨q', 0, none⟩))) := fun V hV => cell_of ((hV.block _ (blk_lt hp5.blk)).trans hp5.blk) rfl
        have G12 : Hid (∀ V, Below U5.heap.size U5 V → V.cell? ⟨B18, 12, none⟩ = some (.string (bs J'.row))) := fun V hV => by rw [← e4]; exact cell_of ((hV.block _ (blk_lt hp5.blk)).trans hp5.blk) rfl
        have G15 : Hid (∀ V, Below U5.heap.size U5 V → V.cell? ⟨B18, 15, none⟩ = some (.int .i64 ((J'.pss.length - J'.sf : Nat) : Int))) := fun V hV => by rw [← e7]; exact cell_of ((hV.block _ (blk_lt hp5.blk)).trans hp5.blk) rfl
        have G11 : Hid (∀ V, Below U5.heap.size U5 V → V.cell? ⟨B18, 11, none⟩ = some (.int .u64 (J'.ep : Nat))) := fun V hV => by rw [← e3]; exact cell_of ((hV.block _ (blk_lt hp5.blk)).trans hp5.blk) rfl
        have GJ : Hid (∀ V, Below U5.heap.size U5 V → (Instr.loadAt 43 (.pointer (some ⟨B18, 8, none⟩))).run Tryz.prog V = .ok (.agg #[u0', u1', u2', u3', u4', u5', u6', u7', u8']) V) := fun V hV => load_wj ((hV.block _ (blk_lt hp5.blk)).trans hp5.blk)
        have hsz : (bs J'.row).size = J'.row.length := bs_size _
        clear hW5 hA5 hs5 hp5 hokJ hJ5 e3 e4 e7 HW5 HU
        generalize bs J'.row = RR at *
        generalize 64 * J'.a.s - (J'.row.length : Nat) = rm at *
        generalize J'.row.length = L at *
        generalize J'.pss.length - J'.sf = wt at *
        generalize J'.ep = ep' at *
        go_wp2_with (first
          | (refine wpList_load_at rfl 49 _ rfl _ _ rfl HLx.out ?_)
          | (refine wpList_store_at rfl 49 _ _ rfl _ _ rfl rfl HS5.out ?_)
          | fail)
        clear HLx HS5
        refine wp_region_noPanic ?_
        refine wp_region_held_drew (S := fun V => Below U5.heap.size U5 V) (by kernel_rfl) (below_drew _) (fun hHeld => ?_)
        refine tk 0 (.bool true) (h := ?_)
        refine tk 1 (.bool false) (h := ?_)
        refine tk 2 (.bool false) (h := ?_)
        refine tk 3 (.pointer (some ⟨B18, 1, none⟩)) (h := ?_)
        refine take_at 4 (.pointer (some ⟨q', 0, none⟩)) rfl (by kernel_rfl) (by kernel_rfl) (by kernel_rfl) (fun _ _ _ h => h) (Or.inl ⟨by rfl, ?_⟩) (by assumption) ?_
        · intro V hSV; have e0 := G1.out V hSV; go_simp
        simp only [Act.put, List.setIfInBounds_toArray, List.set_cons_zero, List.set_cons_succ]
        refine tk 6 (.pointer (some ⟨B18, 8, none⟩)) (h := ?_)
        refine tk 7 (.pointer (some ⟨B18, 12, none⟩)) (h := ?_)
        refine take_at 8 (.string RR) rfl (by kernel_rfl) (by kernel_rfl) (by kernel_rfl) (fun _ _ _ h => h) (Or.inl ⟨by rfl, ?_⟩) (by assumption) ?_
        · intro V hSV; have e0 := G12.out V hSV; go_simp
        simp only [Act.put, List.setIfInBounds_toArray, List.set_cons_zero, List.set_cons_succ]
        refine tk 9 (.int .i64 (L : Nat)) (h := ?_)
        refine wpAnyH_ready (rs := [5]) (by kernel_rfl) (by simp) ?_
        refine AllReadyH.cons rfl (fun KK hK => ?_) AllReadyH.nil
        go_simp
        go_wp2_with (first | (go_at_call 13; refine (HLen.out _ (by assumption)).mono ?_; rintro e Y1 ⟨rfl, hy1⟩))
        refine hK.out _ _ ?_ (fun hHeld5 => ?_)
        · exact below_step (by assumption) hy1
        clear hK KK
        refine tk 10 (.bool false) (h := ?_)
        refine tk 11 (.bool false) (h := ?_)
        refine tk 12 (.bool false) (h := ?_)
        refine tk 13 (.pointer (some ⟨B18, 1, none⟩)) (h := ?_)
        refine take_at 14 (.pointer (some ⟨q', 0, none⟩)) rfl (by kernel_rfl) (by kernel_rfl) (by kernel_rfl) (fun _ _ _ h => h) (Or.inl ⟨by rfl, ?_⟩) (by assumption) ?_
        · intro V hSV; have e0 := G1.out V hSV; go_simp
        simp only [Act.put, List.setIfInBounds_toArray, List.set_cons_zero, List.set_cons_succ]
        refine tk 16 (.pointer (some ⟨B18, 8, none⟩)) (h := ?_)
        refine tk 17 (.agg #[u0', u1', u2', u3', u4', u5', u6', u7', u8']) (hy := (yields_load (by rfl) 43 _ (by rfl) _ _ (by rfl) (GJ.out))) (h := ?_)
        refine wpAnyH_ready (rs := [15]) (by kernel_rfl) (by simp) ?_
        refine AllReadyH.cons rfl (fun KK hK => ?_) AllReadyH.nil
        go_simp
        go_wp2_with (first | (go_at_call 14; refine (HRoom.out _ (by assumption)).mono ?_; rintro e Y2 ⟨rfl, hy2⟩))
        refine hK.out _ _ ?_ (fun hHeld15 => ?_)
        · exact below_step (by assumption) hy2
        clear hK KK
        refine wpAnyH_ready (rs := [18]) (by kernel_rfl) (by simp) ?_
        refine AllReadyH.cons rfl (fun KK hK => ?_) AllReadyH.nil
        go_simp
        go_wp2_with (first | (go_at_call 15; refine (HRr.out _).mono ?_; rintro e Y3 ⟨rfl, hy3⟩))
        refine hK.out _ _ ?_ (fun hHeld18 => ?_)
        · exact below_step (by assumption) hy3
        clear hK KK
        refine tk 19 (.bool false) (h := ?_)
        refine tk 20 (.bool false) (h := ?_)
        refine tk 21 (.bool false) (h := ?_)
        refine tk 22 (.pointer (some ⟨B18, 1, none⟩)) (h := ?_)
        refine take_at 23 (.pointer (some ⟨q', 0, none⟩)) rfl (by kernel_rfl) (by kernel_rfl) (by kernel_rfl) (fun _ _ _ h => h) (Or.inl ⟨by rfl, ?_⟩) (by assumption) ?_
        · intro V hSV; have e0 := G1.out V hSV; go_simp
        simp only [Act.put, List.setIfInBounds_toArray, List.set_cons_zero, List.set_cons_succ]
        refine tk 25 (.pointer (some ⟨B18, 8, none⟩)) (h := ?_)
        refine tk 26 (.pointer (some ⟨B18, 15, none⟩)) (h := ?_)
        refine take_at 27 (.int .i64 (wt : Nat)) rfl (by kernel_rfl) (by kernel_rfl) (by kernel_rfl) (fun _ _ _ h => h) (Or.inl ⟨by rfl, ?_⟩) (by assumption) ?_
        · intro V hSV; have e0 := G15.out V hSV; go_simp
        simp only [Act.put, List.setIfInBounds_toArray, List.set_cons_zero, List.set_cons_succ]
        refine wpAnyH_ready (rs := [24]) (by kernel_rfl) (by simp) ?_
        refine AllReadyH.cons rfl (fun KK hK => ?_) AllReadyH.nil
        go_simp
        go_wp2_with (first | (go_at_call 16; refine (HWt.out _ (by assumption)).mono ?_; rintro e Y4 ⟨rfl, hy4⟩))
        refine hK.out _ _ ?_ (fun hHeld24 => ?_)
        · exact below_step (by assumption) hy4
        clear hK KK
        refine tk 28 (.bool false) (h := ?_)
        refine tk 29 (.bool false) (h := ?_)
        refine tk 30 (.bool false) (h := ?_)
        refine tk 31 (.pointer (some ⟨B18, 1, none⟩)) (h := ?_)
        refine take_at 32 (.pointer (some ⟨q', 0, none⟩)) rfl (by kernel_rfl) (by kernel_rfl) (by kernel_rfl) (fun _ _ _ h => h) (Or.inl ⟨by rfl, ?_⟩) (by assumption) ?_
        · intro V hSV; have e0 := G1.out V hSV; go_simp
        simp only [Act.put, List.setIfInBounds_toArray, List.set_cons_zero, List.set_cons_succ]
        refine tk 34 (.pointer (some ⟨B18, 8, none⟩)) (h := ?_)
        refine tk 35 (.pointer (some ⟨B18, 11, none⟩)) (h := ?_)
        refine take_at 36 (.int .u64 (ep' : Nat)) rfl (by kernel_rfl) (by kernel_rfl) (by kernel_rfl) (fun _ _ _ h => h) (Or.inl ⟨by rfl, ?_⟩) (by assumption) ?_
        · intro V hSV; have e0 := G11.out V hSV; go_simp
        simp only [Act.put, List.setIfInBounds_toArray, List.set_cons_zero, List.set_cons_succ]
        refine wpAnyH_ready (rs := [33]) (by kernel_rfl) (by simp) ?_
        refine AllReadyH.cons rfl (fun KK hK => ?_) AllReadyH.nil
        go_simp
        go_wp2_with (first | (go_at_call 17; refine (HEp.out _ (by assumption)).mono ?_; rintro e Y5 ⟨rfl, hy5⟩))
        refine hK.out _ _ ?_ (fun hHeld33 => ?_)
        · exact below_step (by assumption) hy5
        clear hK KK
        refine tk 37 (.bool false) (h := ?_)
        refine tk 38 (.bool false) (h := ?_)
        refine wpAnyH_done (by kernel_rfl) ?_ _
        refine NoPanic.normal ?_
        have HR2 := Lib.hid (HR1.out _ hHeld33)
        clear hHeld hHeld5 hHeld15 hHeld18 hHeld24 hHeld33 hy1 hy2 hy3 hy4 hy5 HLen HRoom HRr HWt HEp G1 G12 G15 G11 GJ HR1
        go_wp2_with fail
        go_roundw
        case rel => exact ⟨i + 1, by go_num, by omega, by omega, HR2⟩
        case measure => simp [intOf]; omega
    · by_cases hn1 : i < n
      · have q1 : decide ((i : Int) < (n : Int)) = true := decide_eq_true (by omega)
        have q2 : decide ((i : Int) < 60) = false := decide_eq_false (by omega)
        clear hgo
        obtain ⟨q, d, J, rv, ev, x, ra, rc, ea, ec, v0, v1, v2, v3, v4, v5, u0, u1, u2, u3, u4, u5, u6, u7, u8, hWd, _⟩ := HS.out
        have HBr := Lib.hid hWd.bw
        clear hWd HS H2
        have kc := fun (w : World) (C : Array Value) (n c : Nat) => Lib.run_convert_bytes_const (P := Tryz.prog) w 53 5 C n c Tryz.underlying53 Tryz.underlying5
        go_wp2_with fail
        clear kc
        refine (nil_append _ _).mono ?_
        rintro e y1 ⟨rfl, hy1⟩
        have HY1 : Hid (Below w.heap.size w y1) := by rw [hy1]; exact below_step HBr.out (below_alloc _ _)
        clear hy1
        go_wp2_with fail
        refine (num11 1 y1 (HE.out.on HY1.out)).mono ?_
        rintro e y2 ⟨rfl, hy2⟩
        have HY2 := Lib.hid (below_step HY1.out hy2)
        clear hy2
        go_wp2_with fail
        refine (nil_flush y2).mono ?_
        rintro e y3 ⟨rfl, hy3⟩
        obtain rfl : y2 = y3 := hy3.symm
        clear hy3
        go_wp2_with fail
        refine (num11 1 y2 (HE.out.on HY2.out)).mono ?_
        rintro e y3 ⟨rfl, hy3⟩
        have HY3 := Lib.hid (below_step HY2.out hy3)
        clear hy3
        go_wp2_with fail
        refine (nil_rewind _ y3).mono ?_
        rintro e y4 ⟨rfl, hy4⟩
        obtain rfl : y3 = y4 := hy4.symm
        clear hy4
        go_wp2_with fail
        refine (num11 1 y3 (HE.out.on HY3.out)).mono ?_
        rintro e y4 ⟨rfl, hy4⟩
        have HY4 := Lib.hid (below_step HY3.out hy4)
        clear hy4
        go_wp2_with fail
        refine (nil_cut _ y4).mono ?_
        rintro e y5 ⟨rfl, hy5⟩
        obtain rfl : y4 = y5 := hy5.symm
        clear hy5
        go_wp2_with fail
        refine (num11 1 y4 (HE.out.on HY4.out)).mono ?_
        rintro e y5 ⟨rfl, hy5⟩
        have HY5 := Lib.hid (below_step HY4.out hy5)
        clear hy5
        go_wp2_with (first
          | (go_at_call 13; refine (nil_len _).mono ?_; rintro e z1 ⟨rfl, rfl⟩)
          | (go_at_call 14; refine (nil_room _).mono ?_; rintro e z2 ⟨rfl, rfl⟩)
          | (go_at_call 16; refine (nil_waits _).mono ?_; rintro e z3 ⟨rfl, rfl⟩)
          | (go_at_call 17; refine (nil_epoch _).mono ?_; rintro e z4 ⟨rfl, rfl⟩)
          | (go_at_call 10; refine (sure_ _).mono ?_; rintro e z5 ⟨rfl, hz5⟩; have HZ5 := Lib.hid (below_step HY5.out hz5); clear hz5)
          | fail)
        go_ret
        exact ⟨rfl, HZ5.out⟩
      · have q1 : decide ((i : Int) < (n : Int)) = false := decide_eq_false (by omega)
        clear hgo
        obtain ⟨q, d, J, rv, ev, x, ra, rc, ea, ec, v0, v1, v2, v3, v4, v5, u0, u1, u2, u3, u4, u5, u6, u7, u8, hWd, _⟩ := HS.out
        have HBr := Lib.hid hWd.bw
        clear hWd HS H2
        have kc := fun (w : World) (C : Array Value) (n c : Nat) => Lib.run_convert_bytes_const (P := Tryz.prog) w 53 5 C n c Tryz.underlying53 Tryz.underlying5
        go_wp2_with fail
        clear kc
        refine (nil_append _ _).mono ?_
        rintro e y1 ⟨rfl, hy1⟩
        have HY1 : Hid (Below w.heap.size w y1) := by rw [hy1]; exact below_step HBr.out (below_alloc _ _)
        clear hy1
        go_wp2_with fail
        refine (num11 1 y1 (HE.out.on HY1.out)).mono ?_
        rintro e y2 ⟨rfl, hy2⟩
        have HY2 := Lib.hid (below_step HY1.out hy2)
        clear hy2
        go_wp2_with fail
        refine (nil_flush y2).mono ?_
        rintro e y3 ⟨rfl, hy3⟩
        obtain rfl : y2 = y3 := hy3.symm
        clear hy3
        go_wp2_with fail
        refine (num11 1 y2 (HE.out.on HY2.out)).mono ?_
        rintro e y3 ⟨rfl, hy3⟩
        have HY3 := Lib.hid (below_step HY2.out hy3)
        clear hy3
        go_wp2_with fail
        refine (nil_rewind _ y3).mono ?_
        rintro e y4 ⟨rfl, hy4⟩
        obtain rfl : y3 = y4 := hy4.symm
        clear hy4
        go_wp2_with fail
        refine (num11 1 y3 (HE.out.on HY3.out)).mono ?_
        rintro e y4 ⟨rfl, hy4⟩
        have HY4 := Lib.hid (below_step HY3.out hy4)
        clear hy4
        go_wp2_with fail
        refine (nil_cut _ y4).mono ?_
        rintro e y5 ⟨rfl, hy5⟩
        obtain rfl : y4 = y5 := hy5.symm
        clear hy5
        go_wp2_with fail
        refine (num11 1 y4 (HE.out.on HY4.out)).mono ?_
        rintro e y5 ⟨rfl, hy5⟩
        have HY5 := Lib.hid (below_step HY4.out hy5)
        clear hy5
        go_wp2_with (first
          | (go_at_call 13; refine (nil_len _).mono ?_; rintro e z1 ⟨rfl, rfl⟩)
          | (go_at_call 14; refine (nil_room _).mono ?_; rintro e z2 ⟨rfl, rfl⟩)
          | (go_at_call 16; refine (nil_waits _).mono ?_; rintro e z3 ⟨rfl, rfl⟩)
          | (go_at_call 17; refine (nil_epoch _).mono ?_; rintro e z4 ⟨rfl, rfl⟩)
          | (go_at_call 10; refine (sure_ _).mono ?_; rintro e z5 ⟨rfl, hz5⟩; have HZ5 := Lib.hid (below_step HY5.out hz5); clear hz5)
          | fail)
        go_ret
        exact ⟨rfl, HZ5.out⟩
end Go.Proofs.YtjnhcanohefjiaaGreatDoor
