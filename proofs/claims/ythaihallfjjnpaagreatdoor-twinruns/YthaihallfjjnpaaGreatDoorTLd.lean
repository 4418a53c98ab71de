/- twin.Load, twin.Halves. -/
import Derived.Test.YthaihallfjjnpaaGreatDoorTSv
namespace Go.Proofs.YthaihallfjjnpaaGreatDoor
open Go.RowKit Go.Sort Go.Maps

/-- What Load hands back. -/
def LdTo (w : World) (d : Dev) (a : Ar) (e : Ending) (w' : World) : Prop :=
  ((loadE d a = 0 ∧ ∃ v, e = .returned (.tuple #[v, .int .u64 (topA d a : Nat), .nilIface]) ∧ SlT w' v (txtA d a (tellA d a))) ∨ (loadE d a ≠ 0 ∧ e = .returned (.tuple #[.slice none 0 0, .int .u64 0, .iface 56 (.int .i64 (loadE d a : Nat))]))) ∧ Below w.heap.size w w'
theorem zeroK : (Tryz.prog.info? 70).map (fun i => (i.zero, i.size)) = some (some (.agg #[.int .u64 0, .slice none 0 0]), 2) := by kernel_rfl
theorem k_new (w : World) (n : Int) (a : Option Addr) (l c : Nat) : ∃ W, (Instr.storeAt 70 (.pointer (some ⟨w.heap.size, 0, none⟩)) (.agg #[.int .u64 n, .slice a l c])).run Tryz.prog (w.alloc (.cells #[.int .u64 0, .slice none 0 0] 70)) = .ok () W ∧
    W.heap[w.heap.size]? = some (.cells #[.int .u64 n, .slice a l c] 70 (0, 0)) ∧ Below w.heap.size w W := by
  have h0 : (w.alloc (.cells #[.int .u64 0, .slice none 0 0] 70)).heap[w.heap.size]? = some (.cells #[.int .u64 0, .slice none 0 0] 70 (0, 0)) := World.alloc_heap_new' _ _
  exact ⟨_, store_k h0 rfl rfl (two_one _ _ rfl), setRow_heap _ _ _ _ 70 (0, 0) h0, below_setRow (below_alloc _ _) (Nat.le_refl _)⟩
theorem load_mid {w : World} {b o : Nat} {n m : Int} {a0 a1 : Option Addr} {l0 l1 c0 c1 : Nat} (h : w.heap[b]? = some (.cells #[.int .u64 n, .slice a0 l0 c0, .int .u64 m, .slice a1 l1 c1] 71 (0, 0))) (ho : o = 0 ∨ o = 1) :
    (Instr.loadAt 70 (.pointer (some ⟨b, o * 2, none⟩))).run Tryz.prog w = .ok (.agg (if o = 1 then #[.int .u64 m, .slice a1 l1 c1] else #[.int .u64 n, .slice a0 l0 c0])) w := by
  obtain ⟨x0, x1, x2, x3⟩ := cell4 h
  rcases ho with rfl | rfl
  · exact run_loadAt_mid w b 0 70 [.int .u64 n, .slice a0 l0 c0] _ (fun j v hj => by
      match j, hj with
      | 0, hj => cases hj; exact x0
      | 1, hj => cases hj; exact x1) Tryz.underlying70 rfl infoK
  · exact run_loadAt_mid w b 2 70 [.int .u64 m, .slice a1 l1 c1] _ (fun j v hj => by
      match j, hj with
      | 0, hj => cases hj; exact x2
      | 1, hj => cases hj; exact x3) Tryz.underlying70 rfl infoK
set_option maxRecDepth 100000 in
set_option maxHeartbeats 2000000 in
theorem load_err {w : World} {p aa bb : Nat} {d : Dev} {K : Nat} (h : DevIn w p aa bb d K) (a : Ar) (hr : inR a) (he : lookE d a ≠ 0) :
    Calls Tryz.prog 7 #[.pointer (some ⟨p, 0, none⟩), arV a] w (LdTo w d a) := by
  have x3 := arW'_below w a
  have HL := Lib.hid (look_ (h.on x3) a hr)
  have hzk := (zero_of_info zeroKs).1
  have hle : loadE d a = lookE d a := if_pos he
  have HE : Hid (∀ w', Below w.heap.size w w' → LdTo w d a (.returned (.tuple #[.slice none 0 0, .int .u64 0, .iface 56 (.int .i64 (lookE d a : Nat))])) w') := fun w' hb => ⟨.inr ⟨by rw [hle]; exact he, by rw [hle]⟩, hb⟩
  have HB := Lib.hid x3
  unfold arW' at HL HB
  unfold LookTo at HL
  clear x3 h hr hle
  generalize lookE d a = le at *
  generalize hV : w.alloc (.cells #[.int .i64 a.g, .int .i64 a.f, .int .i64 a.s] 44) = V at *
  have HV := Lib.hid hV
  clear hV
  unfold arV at HL ⊢
  go_enter Tryz.func7, Tryz.ntmps7
  go_wp2_with fail
  rw [HV.out]
  refine HL.out.mono ?_
  rintro e w1 ⟨⟨h0, _⟩ | ⟨_, rfl⟩, hb1⟩
  · exact absurd h0 he
  obtain ⟨W2, hst, hw2, hb2, _⟩ := ks_new w1 0 0 none none 0 0 0 0
  have HS := Lib.hid hst
  have HB2 := Lib.hid (below_step (below_step HB.out hb1) hb2)
  unfold twoV
  clear hst hw2 hb2 hb1 HL HV HB
  go_wp2_with (first | (refine wpList_store_at rfl 71 _ _ rfl _ _ rfl rfl HS.out ?_) | fail)
  go_ret3
  exact HE.out _ HB2.out
set_option maxRecDepth 100000 in
set_option maxHeartbeats 2000000 in
theorem load_ok {w : World} {p aa bb : Nat} {d : Dev} {K : Nat} (h : DevIn w p aa bb d K) (a : Ar) (hr : inR a) (he : lookE d a = 0) :
    Calls Tryz.prog 7 #[.pointer (some ⟨p, 0, none⟩), arV a] w (LdTo w d a) := by
  have x3 := arW'_below w a
  have HL := Lib.hid (look_ (h.on x3) a hr)
  have hzk := (zero_of_info zeroKs).1
  have hzk2 := (zero_of_info zeroK).1
  have HNw := Lib.hid (fun s t W => newest_ (numA d a 0) (numA d a 1) s t W)
  have hte : (if numA d a 1 > numA d a 0 then 1 else 0) = tellA d a := rfl
  rw [hte] at HNw
  have hte2 : tellA d a = 0 ∨ tellA d a = 1 := by unfold tellA; split <;> omega
  have HE0 : Hid (topA d a = 0 → ∀ w', Below w.heap.size w w' → LdTo w d a (.returned (.tuple #[.slice none 0 0, .int .u64 0, .iface 56 (.int .i64 8)])) w') := fun ht w' hb => by
    have hle : loadE d a = 8 := by unfold loadE; rw [if_neg (by simpa using he), if_pos ht]
    exact ⟨.inr ⟨by rw [hle]; decide, by rw [hle]; rfl⟩, hb⟩
  have HE1 : Hid (topA d a ≠ 0 → ∀ w' v, SlT w' v (txtA d a (tellA d a)) → Below w.heap.size w w' → LdTo w d a (.returned (.tuple #[v, .int .u64 (topA d a : Nat), .nilIface])) w') := fun ht w' v hv hb => by
    have hle : loadE d a = 0 := by unfold loadE; rw [if_neg (by simpa using he), if_neg ht]
    exact ⟨.inl ⟨hle, v, rfl, hv⟩, hb⟩
  have HB := Lib.hid x3
  unfold arW' at HL HB
  unfold LookTo at HL
  clear x3 h hr
  generalize lookE d a = le at *
  generalize hV : w.alloc (.cells #[.int .i64 a.g, .int .i64 a.f, .int .i64 a.s] 44) = V at *
  have HV := Lib.hid hV
  clear hV hte
  unfold arV at HL ⊢
  go_enter Tryz.func7, Tryz.ntmps7
  go_wp2_with fail
  rw [HV.out]
  refine HL.out.mono ?_
  rintro e w1 ⟨⟨_, s0, s1, rfl, ⟨a0, c0, rfl, t0⟩, ⟨a1, c1, rfl, t1⟩⟩ | ⟨h0, _⟩, hb1⟩
  case inr => exact absurd he h0
  obtain ⟨W2, hst, hw2, hb2, _⟩ := ks_new w1 (numA d a 0 : Nat) (numA d a 1 : Nat) a0 a1 (txtA d a 0).length (txtA d a 1).length c0 c1
  have HS := Lib.hid hst
  have HB2 := Lib.hid (below_step (below_step HB.out hb1) hb2)
  have HLk := Lib.hid (load_ks hw2 rfl)
  have HK2 := Lib.hid hw2
  have HT : Hid (SlT W2 (.slice a0 (txtA d a 0).length c0) (txtA d a 0) ∧ SlT W2 (.slice a1 (txtA d a 1).length c1) (txtA d a 1)) := ⟨SlT.on ⟨a0, c0, rfl, t0⟩ hb2, SlT.on ⟨a1, c1, rfl, t1⟩ hb2⟩
  -- what is told
  obtain ⟨sa, sl, sc, hsel⟩ : ∃ sa sl sc, (if tellA d a = 1 then #[Value.int .u64 (numA d a 1 : Nat), .slice a1 (txtA d a 1).length c1] else #[.int .u64 (numA d a 0 : Nat), .slice a0 (txtA d a 0).length c0]) = #[.int .u64 (topA d a : Nat), .slice sa sl sc] ∧ SlT W2 (.slice sa sl sc) (txtA d a (tellA d a)) := by
    rcases hte2 with e | e
    · refine ⟨a0, (txtA d a 0).length, c0, ?_, ?_⟩
      · rw [if_neg (by omega)]; unfold topA; rw [e]
      · rw [e]; exact HT.out.1
    · refine ⟨a1, (txtA d a 1).length, c1, ?_, ?_⟩
      · rw [if_pos e]; unfold topA; rw [e]
      · rw [e]; exact HT.out.2
  have HSel := Lib.hid hsel
  unfold twoV at HNw ⊢
  clear hst hw2 hb2 hb1 HL HV HB hsel t0 t1 HT
  generalize (txtA d a 0).length = l0 at *
  generalize (txtA d a 1).length = l1 at *
  generalize numA d a 0 = n0 at *
  generalize numA d a 1 = n1 at *
  generalize topA d a = T at *
  generalize txtA d a (tellA d a) = TX at *
  generalize tellA d a = te at *
  by_cases hT0 : T = 0
  · have hT : ((T : Int) == 0) = true := by simp [hT0]
    have HE := Lib.hid (HE0.out hT0)
    clear hT0 HE0 HE1
    go_wp2_with (first
      | (refine wpList_store_at rfl 71 _ _ rfl _ _ rfl rfl HS.out ?_)
      | (refine wpList_load_at rfl 71 _ rfl _ _ rfl HLk.out ?_)
      | (go_at_call 25; refine (HNw.out _ _ _).mono ?_; rintro e w3 ⟨rfl, hb3⟩
         have HB3 := Lib.hid (below_step HB2.out hb3)
         have hld := load_mid ((hb3.block _ (blk_lt HK2.out)).trans HK2.out) hte2
         rw [HSel.out.1] at hld
         obtain ⟨W4, hst4, hw4, hb4⟩ := k_new w3 (T : Nat) sa sl sc
         have HLm := Lib.hid hld
         have HS4 := Lib.hid hst4
         have HB4 := Lib.hid (below_step HB3.out hb4)
         have HT4 := Lib.hid ((HSel.out.2.on hb3).on hb4)
         have z0 : W4.cell? ⟨w3.heap.size, 0, none⟩ = some (.int .u64 (T : Nat)) := cell_of hw4 rfl
         have z1 : W4.cell? ⟨w3.heap.size, 1, none⟩ = some (.slice sa sl sc) := cell_of hw4 rfl
         clear hb3 hld hst4 hw4 hb4 HB2 HK2 HLk HSel HNw HS HB3)
      | (refine wpList_load_at rfl 70 _ rfl _ _ rfl HLm.out ?_)
      | (refine wpList_store_at rfl 70 _ _ rfl _ _ rfl rfl HS4.out ?_)
      | fail)
    go_ret3
    exact HE.out _ HB4.out
  · have hT : ((T : Int) == 0) = false := by simpa using hT0
    have HE := Lib.hid (HE1.out hT0)
    clear hT0 HE0 HE1
    go_wp2_with (first
      | (refine wpList_store_at rfl 71 _ _ rfl _ _ rfl rfl HS.out ?_)
      | (refine wpList_load_at rfl 71 _ rfl _ _ rfl HLk.out ?_)
      | (go_at_call 25; refine (HNw.out _ _ _).mono ?_; rintro e w3 ⟨rfl, hb3⟩
         have HB3 := Lib.hid (below_step HB2.out hb3)
         have hld := load_mid ((hb3.block _ (blk_lt HK2.out)).trans HK2.out) hte2
         rw [HSel.out.1] at hld
         obtain ⟨W4, hst4, hw4, hb4⟩ := k_new w3 (T : Nat) sa sl sc
         have HLm := Lib.hid hld
         have HS4 := Lib.hid hst4
         have HB4 := Lib.hid (below_step HB3.out hb4)
         have HT4 := Lib.hid ((HSel.out.2.on hb3).on hb4)
         have z0 : W4.cell? ⟨w3.heap.size, 0, none⟩ = some (.int .u64 (T : Nat)) := cell_of hw4 rfl
         have z1 : W4.cell? ⟨w3.heap.size, 1, none⟩ = some (.slice sa sl sc) := cell_of hw4 rfl
         clear hb3 hld hst4 hw4 hb4 HB2 HK2 HLk HSel HNw HS HB3)
      | (refine wpList_load_at rfl 70 _ rfl _ _ rfl HLm.out ?_)
      | (refine wpList_store_at rfl 70 _ _ rfl _ _ rfl rfl HS4.out ?_)
      | fail)
    go_quiet (fail)
    have HB5 := Lib.hid (below_drewN HB4.out nq)
    have HT5 := Lib.hid (HT4.out.on (below_drewN (Below.refl _ _) nq))
    clear HB4 HT4 z0 z1
    go_wp2_with fail
    go_ret3
    exact HE.out _ _ HT5.out HB5.out
/-- Load, of whatever area. -/
theorem load_ {w : World} {p aa bb : Nat} {d : Dev} {K : Nat} (h : DevIn w p aa bb d K) (a : Ar) (hr : inR a) : Calls Tryz.prog 7 #[.pointer (some ⟨p, 0, none⟩), arV a] w (LdTo w d a) := by
  by_cases he : lookE d a = 0
  · exact load_ok h a hr he
  · exact load_err h a hr he
/-- What Halves hands back. -/
def HvTo (w : World) (d : Dev) (a : Ar) (e : Ending) (w' : World) : Prop :=
  e = .returned (.tuple #[.int .u64 (if lookE d a = 0 then numA d a 0 else 0 : Nat), .int .u64 (if lookE d a = 0 then numA d a 1 else 0 : Nat), errV (lookE d a)]) ∧ Below w.heap.size w w'
set_option maxRecDepth 100000 in
set_option maxHeartbeats 2000000 in
theorem halves_ {w : World} {p aa bb : Nat} {d : Dev} {K : Nat} (h : DevIn w p aa bb d K) (a : Ar) (hr : inR a) : Calls Tryz.prog 9 #[.pointer (some ⟨p, 0, none⟩), arV a] w (HvTo w d a) := by
  have x3 := arW'_below w a
  have HL := Lib.hid (look_ (h.on x3) a hr)
  have hzk := (zero_of_info zeroKs).1
  have HB := Lib.hid x3
  unfold arW' at HL HB
  unfold LookTo at HL
  have HE0 : Hid (lookE d a = 0 → ∀ w', Below w.heap.size w w' → HvTo w d a (.returned (.tuple #[.int .u64 (numA d a 0 : Nat), .int .u64 (numA d a 1 : Nat), .nilIface])) w') := fun he w' hb => ⟨by rw [if_pos he, if_pos he, he]; rfl, hb⟩
  have HE1 : Hid (lookE d a ≠ 0 → ∀ w', Below w.heap.size w w' → HvTo w d a (.returned (.tuple #[.int .u64 0, .int .u64 0, .iface 56 (.int .i64 (lookE d a : Nat))])) w') := fun he w' hb => ⟨by rw [if_neg he, if_neg he, errV_not he]; rfl, hb⟩
  clear x3 h hr
  generalize lookE d a = le at *
  generalize hV : w.alloc (.cells #[.int .i64 a.g, .int .i64 a.f, .int .i64 a.s] 44) = V at *
  have HV := Lib.hid hV
  clear hV
  unfold arV at HL ⊢
  by_cases he : le = 0
  · have HE := Lib.hid (HE0.out he)
    clear HE0 HE1
    go_enter Tryz.func9, Tryz.ntmps9
    go_wp2_with fail
    rw [HV.out]
    refine HL.out.mono ?_
    rintro e w1 ⟨⟨_, s0, s1, rfl, ⟨a0, c0, rfl, t0⟩, ⟨a1, c1, rfl, t1⟩⟩ | ⟨h0, _⟩, hb1⟩
    case inr => exact absurd he h0
    obtain ⟨W2, hst, hw2, hb2, _⟩ := ks_new w1 (numA d a 0 : Nat) (numA d a 1 : Nat) a0 a1 (txtA d a 0).length (txtA d a 1).length c0 c1
    have HS := Lib.hid hst
    have HB2 := Lib.hid (below_step (below_step HB.out hb1) hb2)
    obtain ⟨y0, y1, y2, y3⟩ := cell4 hw2
    unfold twoV
    clear hst hw2 hb2 hb1 HL HV HB t0 t1
    generalize (txtA d a 0).length = l0 at *
    generalize (txtA d a 1).length = l1 at *
    generalize numA d a 0 = n0 at *
    generalize numA d a 1 = n1 at *
    go_wp2_with (first | (refine wpList_store_at rfl 71 _ _ rfl _ _ rfl rfl HS.out ?_) | fail)
    go_quiet (fail)
    have HB5 := Lib.hid (below_drewN HB2.out nq)
    clear HB2 y0 y1 y2 y3
    go_wp2_with fail
    go_ret3
    exact HE.out _ HB5.out
  · have HE := Lib.hid (HE1.out he)
    clear HE0 HE1
    go_enter Tryz.func9, Tryz.ntmps9
    go_wp2_with fail
    rw [HV.out]
    refine HL.out.mono ?_
    rintro e w1 ⟨⟨h0, _⟩ | ⟨_, rfl⟩, hb1⟩
    · exact absurd h0 he
    obtain ⟨W2, hst, hw2, hb2, _⟩ := ks_new w1 0 0 none none 0 0 0 0
    have HS := Lib.hid hst
    have HB2 := Lib.hid (below_step (below_step HB.out hb1) hb2)
    unfold twoV
    clear hst hw2 hb2 hb1 HL HV HB
    go_wp2_with (first | (refine wpList_store_at rfl 71 _ _ rfl _ _ rfl rfl HS.out ?_) | fail)
    go_ret3
    exact HE.out _ HB2.out
end Go.Proofs.YthaihallfjjnpaaGreatDoor
