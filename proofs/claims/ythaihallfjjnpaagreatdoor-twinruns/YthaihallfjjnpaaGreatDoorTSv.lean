/- twin.Save, Load, Halves. -/
import Derived.Test.YthaihallfjjnpaaGreatDoorTLook
import Derived.Test.YthaihallfjjnpaaGreatDoorTLaid
import Derived.Test.YthaihallfjjnpaaGreatDoorTWrite
namespace Go.Proofs.YthaihallfjjnpaaGreatDoor
open Go.RowKit Go.Sort Go.Maps

theorem tell_val (d : Dev) (a : Ar) : (if numA d a 1 > numA d a 0 then numA d a 1 else numA d a 0) = topA d a := by
  unfold topA tellA; split <;> rfl
theorem next_val (d : Dev) (a : Ar) : (if topA d a = 0 then 0 else if numA d a 1 > numA d a 0 then 0 else 1) = nextH d a := by
  unfold nextH tellA
  split
  · rfl
  · split <;> rfl
/-- What stays under work on a device: bytes of others. -/
theorem nextN_lt (d : Dev) (a : Ar) : nextN d a < 18446744073709551616 := by
  unfold nextN; split <;> omega
theorem nextH_lt (d : Dev) (a : Ar) : nextH d a < 2 := by
  unfold nextH tellA; split
  · omega
  · split <;> omega
theorem room_bound (a : Ar) : roomA a ≤ 524288 := by
  unfold roomA; split <;> omega
theorem laid_bound {n : Nat} {xs : List Nat} (hn : n < 18446744073709551616) (hx : (xs.length : Int) ≤ 524288) : (laidB n xs).length ≤ 524312 := by
  have h1 := enc_le10 n hn
  have h2 := enc_le10 xs.length (by omega)
  rw [laidB_len]
  omega
/-- What look told, stored in a block of its own. -/
theorem ks_new (w : World) (n m : Int) (a b : Option Addr) (l k c e : Nat) : ∃ W, (Instr.storeAt 71 (.pointer (some ⟨w.heap.size, 0, none⟩)) (.agg #[.int .u64 n, .slice a l c, .int .u64 m, .slice b k e])).run Tryz.prog (w.alloc (.cells #[.int .u64 0, .slice none 0 0, .int .u64 0, .slice none 0 0] 71)) = .ok () W ∧
    W.heap[w.heap.size]? = some (.cells #[.int .u64 n, .slice a l c, .int .u64 m, .slice b k e] 71 (0, 0)) ∧ Below w.heap.size w W ∧ W.heap.size = w.heap.size + 1 := by
  have h0 : (w.alloc (.cells #[.int .u64 0, .slice none 0 0, .int .u64 0, .slice none 0 0] 71)).heap[w.heap.size]? = some (.cells #[.int .u64 0, .slice none 0 0, .int .u64 0, .slice none 0 0] 71 (0, 0)) := World.alloc_heap_new' _ _
  exact ⟨_, store_ks h0 rfl rfl (four_one _ _ _ _ _ _ _ _), setRow_heap _ _ _ _ 71 (0, 0) h0, below_setRow (below_alloc _ _) (Nat.le_refl _), by simp [World.setRow]⟩
/-- What Save hands back. -/
def SvTo (w : World) (p aa bb : Nat) (d : Dev) (K : Nat) (a : Ar) (xs : List Nat) (e : Ending) (w' : World) : Prop :=
  e = .returned (errV (saveE d a xs)) ∧ DevIn w' p aa bb (saveD d a xs) (K + 8193) ∧ Fd p aa bb w w'
set_option maxRecDepth 100000 in
set_option maxHeartbeats 2000000 in
theorem save_err {w : World} {p aa bb : Nat} {d : Dev} {K : Nat} (h : DevIn w p aa bb d K) (hK : K + 8193 < 1000000) (a : Ar) (hr : inR a) (xs : List Nat) (ta : Option Addr) (l c : Nat) (he : lookE d a ≠ 0) :
    Calls Tryz.prog 15 #[.pointer (some ⟨p, 0, none⟩), arV a, .slice ta l c] w (SvTo w p aa bb d K a xs) := by
  have x3 := arW'_below w a
  have HL := Lib.hid (look_ (h.on x3) a hr)
  have hzk := (zero_of_info zeroKs).1
  have HE : Hid (∀ w', Below w.heap.size w w' → SvTo w p aa bb d K a xs (.returned (.iface 56 (.int .i64 (lookE d a : Nat)))) w') := fun w' hb => by
    refine ⟨?_, ?_, below_fd hb _ _ _⟩
    · rw [← errV_not he]; congr 2; unfold saveE; rw [if_pos he]
    · unfold saveD; rw [if_pos (.inl he)]; exact (h.on hb).mono (by omega) (by omega)
  have HB := Lib.hid x3
  unfold arW' at HL HB
  unfold LookTo at HL
  clear x3 h hK hr
  generalize lookE d a = le at *
  generalize hV : w.alloc (.cells #[.int .i64 a.g, .int .i64 a.f, .int .i64 a.s] 44) = V at *
  have HV := Lib.hid hV
  clear hV
  unfold arV at HL ⊢
  go_enter Tryz.func15, Tryz.ntmps15
  go_wp2_with fail
  rw [HV.out]
  refine HL.out.mono ?_
  rintro e w1 ⟨⟨h0, _⟩ | ⟨_, rfl⟩, hb1⟩
  · exact absurd h0 he
  obtain ⟨W2, hst, hw2, hb2, _⟩ := ks_new w1 0 0 none none 0 0 0 0
  have HS := Lib.hid hst
  have HB2 := Lib.hid (below_step (below_step HB.out hb1) hb2)
  unfold twoV
  clear hst hw2 hb2 hb1 HL HV HB
  go_wp2_with (first | (refine wpList_store_at rfl 71 _ _ rfl _ _ rfl rfl HS.out ?_) | fail)
  go_ret
  exact HE.out _ HB2.out
set_option maxRecDepth 100000 in
set_option maxHeartbeats 2000000 in
theorem save_long {w : World} {p aa bb : Nat} {d : Dev} {K : Nat} (h : DevIn w p aa bb d K) (hK : K + 8193 < 1000000) (a : Ar) (hr : inR a) (xs : List Nat) (ta : Option Addr) (l c : Nat) (hl : xs.length = l) (he : lookE d a = 0) (hlong : roomA a < (l : Int)) :
    Calls Tryz.prog 15 #[.pointer (some ⟨p, 0, none⟩), arV a, .slice ta l c] w (SvTo w p aa bb d K a xs) := by
  have x3 := arW'_below w a
  have HL := Lib.hid (look_ (h.on x3) a hr)
  have hzk := (zero_of_info zeroKs).1
  have HE : Hid (∀ w', Below w.heap.size w w' → SvTo w p aa bb d K a xs (.returned (.iface 56 (.int .i64 2))) w') := fun w' hb => by
    refine ⟨?_, ?_, below_fd hb _ _ _⟩
    · unfold saveE; rw [if_neg (by simpa using he), if_pos (by rw [hl]; exact hlong)]; rfl
    · unfold saveD; rw [if_pos (.inr (by rw [hl]; exact hlong))]; exact (h.on hb).mono (by omega) (by omega)
  have HR := Lib.hid (fun W => room9_ a W)
  have HB := Lib.hid x3
  have HA := Lib.hid (arW'_at w a)
  unfold arW' at HL HB HA
  unfold LookTo at HL
  clear x3 h hK hr
  generalize lookE d a = le at *
  generalize roomA a = rm at *
  have hgt : (l : Int) > rm := hlong
  generalize hV : w.alloc (.cells #[.int .i64 a.g, .int .i64 a.f, .int .i64 a.s] 44) = V at *
  have HV := Lib.hid hV
  clear hV
  unfold arV at HL HR ⊢
  go_enter Tryz.func15, Tryz.ntmps15
  go_wp2_with fail
  rw [HV.out]
  refine HL.out.mono ?_
  rintro e w1 ⟨⟨_, s0, s1, rfl, ⟨a0, c0, rfl, _⟩, ⟨a1, c1, rfl, _⟩⟩ | ⟨h0, _⟩, hb1⟩
  case inr => exact absurd he h0
  obtain ⟨W2, hst, hw2, hb2, _⟩ := ks_new w1 (numA d a 0 : Nat) (numA d a 1 : Nat) a0 a1 (txtA d a 0).length (txtA d a 1).length c0 c1
  have HS := Lib.hid hst
  have HB2 := Lib.hid (below_step (below_step HB.out hb1) hb2)
  obtain ⟨y0, y1, y2⟩ := (HA.out.on (below_step hb1 hb2)).cells
  unfold twoV
  clear hst hw2 hb2 hb1 HL HV HB HA
  generalize (txtA d a 0).length = l0 at *
  generalize (txtA d a 1).length = l1 at *
  go_wp2_with (first | (refine wpList_store_at rfl 71 _ _ rfl _ _ rfl rfl HS.out ?_) | (go_at_call 12; refine (HR.out _).mono ?_; rintro e w3 ⟨rfl, hb3⟩) | fail)
  go_ret
  exact HE.out _ (below_step HB2.out hb3)
theorem own_some' {w : World} {base : Nat} {v : Value} {xs : List Nat} (h : Own w base v xs) (hp : 0 < xs.length) : ∃ g c, v = .slice (some ⟨g, 0, none⟩) xs.length c ∧ xs.length ≤ c ∧ base ≤ g ∧ g < w.heap.size := by
  rcases h.2 with ⟨_, e⟩ | ⟨g, cap, cur, e, h1, h2, h3, _⟩
  · omega
  · exact ⟨g, cap, e, h3, h1, blk_lt h2⟩
theorem Fd.ar {p aa bb b : Nat} {w w' : World} {a : Ar} (h : Fd p aa bb w w') (ha : ArAt w b a) (hp : b ≠ p) (ha' : b ≠ aa) (hb : b ≠ bb) : ArAt w' b a := (h.block b (blk_lt ha) hp ha' hb).trans ha
set_option maxRecDepth 100000 in
set_option maxHeartbeats 2000000 in
theorem save_ok {w : World} {p aa bb : Nat} {d : Dev} {K : Nat} (h : DevIn w p aa bb d K) (hK : K + 8193 < 1000000) (a : Ar) (hr : inR a) (xs : List Nat) (ta : Option Addr) (l c : Nat) (hl : xs.length = l) (hby : BytesIn w ta xs) (hx : ∀ x ∈ xs, x < 256) (he : lookE d a = 0) (hlong : ¬ roomA a < (l : Int)) :
    Calls Tryz.prog 15 #[.pointer (some ⟨p, 0, none⟩), arV a, .slice ta l c] w (SvTo w p aa bb d K a xs) := by
  have x3 := arW'_below w a
  have HL := Lib.hid (look_ (h.on x3) a hr)
  have hzk := (zero_of_info zeroKs).1
  have hlts := h.lts
  have hlim := h.lim
  have hin : inA d a := by
    unfold lookE at he
    split at he
    · cases he
    · rename_i hh; exact Decidable.not_not.1 hh
  have hrb := room_bound a
  have hN := nextN_lt d a
  have hH := nextH_lt d a
  have hlb := laid_bound (n := nextN d a) (xs := xs) hN (by omega)
  have hbeg : 0 ≤ begA a (nextH d a) ∧ begA a (nextH d a) ≤ 16384 := by
    obtain ⟨q1, q2⟩ := inA_half hin (nextH d a) hH
    have h4 := (q2 0 (by have := hin.2.2.2.1; omega)).2.2.2
    have h4' : begA a (nextH d a) + ((0 : Nat) : Int) < d.s := h4
    omega
  have HE : Hid (∀ (w' : World) (e : Ending), WrPost w p aa bb d K a.g (begA a (nextH d a)) (laidB (nextN d a) xs) (laidB (nextN d a) xs).length e w' → SvTo w p aa bb d K a xs e w') := fun w' e ⟨q1, q2, q3⟩ => by
    refine ⟨?_, ?_, q3⟩
    · have e1 : saveE d a xs = if (wroteD d a xs).2 ≠ 0 then (wroteD d a xs).2 else sErr (wroteD d a xs).1 a.g := by
        unfold saveE; rw [if_neg (fun e => e he), if_neg (by rw [hl]; exact hlong)]
      rw [q1, e1]; rfl
    · unfold saveD wroteD; rw [if_neg (by rintro (e | e); exact e he; rw [hl] at e; exact hlong e)]
      exact q2.mono (by omega) (by omega)
  have HR := Lib.hid (fun W => room9_ a W)
  have HNx := Lib.hid (fun s t W => next_ (numA d a 0) (numA d a 1) s t W)
  simp only [tell_val, next_val] at HNx
  have hnn : (if topA d a = 0 then 1 else (topA d a + 1) % 18446744073709551616) = nextN d a := rfl
  rw [hnn] at HNx
  obtain ⟨i1, i2, i3, i4, i5, i6⟩ := hin
  have HBg := Lib.hid (fun W => begin_ a (nextH d a) W (by omega) (by omega) i3 (by omega) hH)
  have HLd : Hid (∀ W, Below w.heap.size w W → Calls Tryz.prog 34 #[.int .u64 (nextN d a : Nat), .slice ta l c] W (Made W (laidB (nextN d a) xs))) := fun W hW => laid_ (nextN d a) ta xs l c W hl (hby.on hW) hx hN (by omega)
  have HWr : Hid (∀ W g cc, Below w.heap.size w W → BytesIn W (some ⟨g, 0, none⟩) (laidB (nextN d a) xs) → g < W.heap.size → w.heap.size ≤ g → (laidB (nextN d a) xs).length ≤ cc → Calls Tryz.prog 32 #[.pointer (some ⟨p, 0, none⟩), .int .i64 a.g, .int .i64 (begA a (nextH d a)), .slice (some ⟨g, 0, none⟩) (laidB (nextN d a) xs).length cc] W fun e w' => WrPost w p aa bb d K a.g (begA a (nextH d a)) (laidB (nextN d a) xs) (laidB (nextN d a) xs).length e w' ∧ Fd p aa bb W w') := fun W g cc hW hb2 hg1 hg2 hcc =>
    (twr_ (h.on hW) a.g (begA a (nextH d a)) g 0 (laidB (nextN d a) xs).length cc (laidB (nextN d a) xs) hb2 hg1 (by omega) (laidB_byte hx) rfl (by omega) hcc hbeg.1 hbeg.2 (by omega)).mono fun e w' ⟨q1, q2, q3⟩ => ⟨⟨q1, q2, (below_fd hW _ _ _).trans q3⟩, q3⟩
  have hlp : 0 < (laidB (nextN d a) xs).length := by rw [laidB_len]; omega
  have HB := Lib.hid x3
  have HA := Lib.hid (arW'_at w a)
  unfold arW' at HL HB HA
  unfold LookTo at HL
  clear x3 h hK hr hby hx hbeg hN hH hlb hnn hrb
  generalize lookE d a = le at *
  generalize roomA a = rm at *
  generalize nextN d a = N at *
  generalize nextH d a = H at *
  generalize begA a H = BB at *
  generalize hll : (laidB N xs).length = ll at *
  have hgt : ¬ (l : Int) > rm := hlong
  have hse : ∀ W, Below w.heap.size w W → ∀ k, k < w.heap.size → k < W.heap.size := fun W hW k hk => Nat.lt_of_lt_of_le hk hW.size
  generalize hV : w.alloc (.cells #[.int .i64 a.g, .int .i64 a.f, .int .i64 a.s] 44) = V at *
  have HV := Lib.hid hV
  clear hV
  unfold arV at HL HR HBg ⊢
  go_enter Tryz.func15, Tryz.ntmps15
  go_wp2_with fail
  rw [HV.out]
  refine HL.out.mono ?_
  rintro e w1 ⟨⟨_, s0, s1, rfl, ⟨a0, c0, rfl, _⟩, ⟨a1, c1, rfl, _⟩⟩ | ⟨h0, _⟩, hb1⟩
  case inr => exact absurd he h0
  obtain ⟨W2, hst, hw2, hb2, _⟩ := ks_new w1 (numA d a 0 : Nat) (numA d a 1 : Nat) a0 a1 (txtA d a 0).length (txtA d a 1).length c0 c1
  have HS := Lib.hid hst
  have HB2 := Lib.hid (below_step (below_step HB.out hb1) hb2)
  have HA2 := Lib.hid (HA.out.on (below_step hb1 hb2))
  obtain ⟨y0, y1, y2⟩ := HA2.out.cells
  have HK2 := Lib.hid hw2
  unfold twoV at HNx ⊢
  clear hst hw2 hb2 hb1 HL HV HB HA
  generalize (txtA d a 0).length = l0 at *
  generalize (txtA d a 1).length = l1 at *
  generalize numA d a 0 = n0 at *
  generalize numA d a 1 = n1 at *
  go_wp2_with (first
    | (refine wpList_store_at rfl 71 _ _ rfl _ _ rfl rfl HS.out ?_)
    | (go_at_call 12; refine (HR.out _).mono ?_; rintro e w3 ⟨rfl, hb3⟩
       have HB3 := Lib.hid (below_step HB2.out hb3)
       have HA3 := Lib.hid (HA2.out.on hb3)
       have HLk := Lib.hid (load_ks ((hb3.block _ (blk_lt HK2.out)).trans HK2.out) rfl)
       clear hb3 HB2 HA2 HK2 y0 y1 y2 HS HR)
    | (refine wpList_load_at rfl 71 _ rfl _ _ rfl HLk.out ?_)
    | (go_at_call 31; refine (HNx.out _ _ _).mono ?_; rintro e w4 ⟨rfl, hb4⟩
       have HB4 := Lib.hid (below_step HB3.out hb4)
       have HA4 := Lib.hid (HA3.out.on hb4)
       clear hb4 HB3 HA3 HLk HNx)
    | fail)
  have hne : w.heap.size ≠ p ∧ w.heap.size ≠ aa ∧ w.heap.size ≠ bb := by omega
  have F0 : Hid (∀ V, Fd p aa bb w4 V → V.cell? ⟨w.heap.size, 0, none⟩ = some (.int .i64 a.g)) := fun V hV => (hV.ar HA4.out hne.1 hne.2.1 hne.2.2).cells.1
  have F1 : Hid (∀ V, Fd p aa bb w4 V → V.cell? ⟨w.heap.size, 1, none⟩ = some (.int .i64 a.f)) := fun V hV => (hV.ar HA4.out hne.1 hne.2.1 hne.2.2).cells.2.1
  have F2 : Hid (∀ V, Fd p aa bb w4 V → V.cell? ⟨w.heap.size, 2, none⟩ = some (.int .i64 a.s)) := fun V hV => (hV.ar HA4.out hne.1 hne.2.1 hne.2.2).cells.2.2
  refine wp_region_noPanic ?_
  refine wp_region_held_drew (S := fun V => Fd p aa bb w4 V) (by kernel_rfl) (below_fd (below_drew _) _ _ _) (fun hHeld => ?_)
  refine take_at 0 (.pointer (some ⟨p, 0, none⟩)) rfl (by kernel_rfl) (by kernel_rfl) (by kernel_rfl) (fun _ _ _ h => h) (Or.inl ⟨by rfl, ?_⟩) (by assumption) ?_
  · intro V hSV; go_simp
  simp only [Act.put, List.setIfInBounds_toArray, List.set_cons_zero, List.set_cons_succ]
  refine take_at 1 (.pointer (some ⟨w.heap.size, 0, none⟩)) rfl (by kernel_rfl) (by kernel_rfl) (by kernel_rfl) (fun _ _ _ h => h) (Or.inl ⟨by rfl, ?_⟩) (by assumption) ?_
  · intro V hSV; go_simp
  simp only [Act.put, List.setIfInBounds_toArray, List.set_cons_zero, List.set_cons_succ]
  refine take_at 2 (.int .i64 a.g) rfl (by kernel_rfl) (by kernel_rfl) (by kernel_rfl) (fun _ _ _ h => h) (Or.inl ⟨by rfl, ?_⟩) (by assumption) ?_
  · intro V hSV; have e0 := F0.out V hSV; go_simp
  simp only [Act.put, List.setIfInBounds_toArray, List.set_cons_zero, List.set_cons_succ]
  refine take_at 3 (.agg #[.int .i64 a.g, .int .i64 a.f, .int .i64 a.s]) rfl (by kernel_rfl) (by kernel_rfl) (by kernel_rfl) (fun _ _ _ h => h) (Or.inl ⟨by rfl, ?_⟩) (by assumption) ?_
  · intro V hSV; have e0 := F0.out V hSV; have e1 := F1.out V hSV; have e2 := F2.out V hSV; go_simp
  simp only [Act.put, List.setIfInBounds_toArray, List.set_cons_zero, List.set_cons_succ]
  refine take_at 4 (.int .i64 H) rfl (by kernel_rfl) (by kernel_rfl) (by kernel_rfl) (fun _ _ _ h => h) (Or.inl ⟨by rfl, ?_⟩) (by assumption) ?_
  · intro V hSV; go_simp
  simp only [Act.put, List.setIfInBounds_toArray, List.set_cons_zero, List.set_cons_succ]
  refine take_at 6 (.int .u64 N) rfl (by kernel_rfl) (by kernel_rfl) (by kernel_rfl) (fun _ _ _ h => h) (Or.inl ⟨by rfl, ?_⟩) (by assumption) ?_
  · intro V hSV; go_simp
  simp only [Act.put, List.setIfInBounds_toArray, List.set_cons_zero, List.set_cons_succ]
  refine take_at 7 (.slice ta l c) rfl (by kernel_rfl) (by kernel_rfl) (by kernel_rfl) (fun _ _ _ h => h) (Or.inl ⟨by rfl, ?_⟩) (by assumption) ?_
  · intro V hSV; go_simp
  simp only [Act.put, List.setIfInBounds_toArray, List.set_cons_zero, List.set_cons_succ]
  refine wpAnyH_ready (rs := [5]) (by kernel_rfl) (by simp) ?_
  refine AllReadyH.cons rfl (fun KK hK => ?_) AllReadyH.nil
  go_simp
  go_wp2_with (first | (go_at_call 33; refine (HBg.out _).mono ?_; rintro e V1 ⟨rfl, hb1⟩))
  refine hK.out _ _ ?_ (fun hHeld5 => ?_)
  · exact Fd.trans (by assumption) (below_fd hb1 _ _ _)
  clear hK KK
  have hB1 := below_step (below_drew w4) hb1
  refine wpAnyH_ready (rs := [8]) (by kernel_rfl) (by simp) ?_
  refine AllReadyH.cons rfl (fun KK hK => ?_) AllReadyH.nil
  go_simp
  go_wp2_with (first | (go_at_call 34; refine (HLd.out _ (below_step HB4.out hB1)).mono ?_; rintro e V2 ⟨a3, c3, rfl, ho3, hy3, hn3, hb2⟩))
  refine hK.out _ _ ?_ (fun hHeld8 => ?_)
  · exact Fd.trans (by assumption) (below_fd hb2 _ _ _)
  clear hK KK
  have hB2 := below_step hB1 hb2
  obtain ⟨g3, cg3, hv3, hcg3, hg3, hg3'⟩ := own_some' ho3 (by rw [hll]; exact hlp)
  cases hv3
  rw [hll] at hcg3
  have HC : Hid (Calls Tryz.prog 32 #[.pointer (some ⟨p, 0, none⟩), .int .i64 a.g, .int .i64 BB, .slice (some ⟨g3, 0, none⟩) ll c3] V2 fun e w' => ∃ ev, e = .returned ev ∧ SvTo w p aa bb d K a xs (.returned ev) w' ∧ Fd p aa bb V2 w') :=
    (HWr.out V2 g3 c3 (below_step HB4.out hB2) hy3 hg3' (Nat.le_trans (below_step HB4.out hB1).size hg3) hcg3).mono fun e w' ⟨q1, q2⟩ => ⟨_, q1.1, HE.out _ _ (by rw [← q1.1]; exact q1), q2⟩
  clear ho3 hy3 hn3 hcg3 hg3 hg3'
  refine wpAnyH_ready (rs := [9]) (by kernel_rfl) (by simp) ?_
  refine AllReadyH.cons rfl (fun KK hK => ?_) AllReadyH.nil
  go_simp
  go_wp2_with (first | (go_at_call 32; refine (HC.out).mono ?_; rintro e V3 ⟨ev, rfl, hs3, hf3⟩))
  refine hK.out _ _ ?_ (fun hHeld9 => ?_)
  · exact Fd.trans (by assumption) hf3
  clear hK KK
  have HS3 := Lib.hid hs3
  clear hs3
  refine take_at 10 (ev) rfl (by kernel_rfl) (by kernel_rfl) (by kernel_rfl) (fun _ _ _ h => h) (Or.inl ⟨by rfl, ?_⟩) (by assumption) ?_
  · intro V hSV; go_simp
  simp only [Act.put, List.setIfInBounds_toArray, List.set_cons_zero, List.set_cons_succ]
  refine wpAnyH_done (by kernel_rfl) ?_ _
  refine NoPanic.normal ?_
  clear hb1 hB1 hb2 hB2 hf3 hHeld hHeld5 hHeld8 hHeld9 HC HWr HLd HBg HE F0 F1 F2 HA4 HB4
  go_wp2_with fail
  go_ret
  exact HS3.out
/-- Save, whatever is saved where. -/
theorem save_ {w : World} {p aa bb : Nat} {d : Dev} {K : Nat} (h : DevIn w p aa bb d K) (hK : K + 8193 < 1000000) (a : Ar) (hr : inR a) (xs : List Nat) (ta : Option Addr) (l c : Nat) (hl : xs.length = l) (hby : BytesIn w ta xs) (hx : ∀ x ∈ xs, x < 256) :
    Calls Tryz.prog 15 #[.pointer (some ⟨p, 0, none⟩), arV a, .slice ta l c] w (SvTo w p aa bb d K a xs) := by
  by_cases he : lookE d a = 0
  · by_cases hlong : roomA a < (l : Int)
    · exact save_long h hK a hr xs ta l c hl he hlong
    · exact save_ok h hK a hr xs ta l c hl hby hx he hlong
  · exact save_err h hK a hr xs ta l c he
end Go.Proofs.YthaihallfjjnpaaGreatDoor
