/- The document's hex and Text. -/
import Derived.Test.YteeojhmdefhlmaaCuRef
import Derived.Test.YteeojhmdefhlmaaCuText
namespace Go.Proofs.Yteeojhmdefhlmaa
open Go.RowKit Go.Sort

theorem bs_append (xs ys : List Nat) : bs (xs ++ ys) = bs xs ++ bs ys := by
  apply ba_ext
  rw [ba_append]
  simp [bs]
theorem bs_size (xs : List Nat) : (bs xs).size = xs.length := by rw [size_list]; simp [bs]
/-- One digit as a text. -/
def digB (k : Nat) : ByteArray := bs [hexd k]
theorem digB_size (k : Nat) : (digB k).size = 1 := bs_size _
set_option maxRecDepth 100000 in
theorem hexSl {V : World} {a : Act} {o : Oper} {x y : Operand} {k : Nat} (ho : o.op = .slice 9 (.const (.string ⟨#[48, 49, 50, 51, 52, 53, 54, 55, 56, 57, 97, 98, 99, 100, 101, 102]⟩)) (some x) (some y) none) (hx : a.eval x = .int .u8 (k : Int)) (hy : a.eval y = .int .u8 ((k + 1 : Nat) : Int)) (hk : k < 16) : (execOp a.eval o).run Try.prog V = .ok (.value (.string (digB k))) V := by
  unfold execOp
  simp only [ho, Option.map_some, Option.map_none, hx, hy]
  rcases (by omega : k = 0 ∨ k = 1 ∨ k = 2 ∨ k = 3 ∨ k = 4 ∨ k = 5 ∨ k = 6 ∨ k = 7 ∨ k = 8 ∨ k = 9 ∨ k = 10 ∨ k = 11 ∨ k = 12 ∨ k = 13 ∨ k = 14 ∨ k = 15) with rfl | rfl | rfl | rfl | rfl | rfl | rfl | rfl | rfl | rfl | rfl | rfl | rfl | rfl | rfl | rfl <;> rfl
theorem hexSl' {V : World} {a : Act} {o : Oper} {x y : Operand} {k : Nat} {D : ByteArray} (ho : o.op = .slice 9 (.const (.string ⟨#[48, 49, 50, 51, 52, 53, 54, 55, 56, 57, 97, 98, 99, 100, 101, 102]⟩)) (some x) (some y) none) (hx : a.eval x = .int .u8 (k : Int)) (hy : a.eval y = .int .u8 ((k + 1 : Nat) : Int)) (hk : k < 16) (hD : D = digB k) : (execOp a.eval o).run Try.prog V = .ok (.value (.string D)) V := by
  rw [hD]; exact hexSl ho hx hy hk
set_option maxRecDepth 100000 in
set_option maxHeartbeats 1000000 in
theorem rhex_ (s : ByteArray) (w : World) (hs : s.size ≤ 1048576) : Calls Try.prog 30 #[.string s] w fun e w' => e = .returned (.string (bs (hexL s.data.toList))) ∧ Below w.heap.size w w' := by
  have HE : Hid (s.data.toList.take s.size = s.data.toList) := by show _ = _; rw [size_list, List.take_length]
  have HST : Hid (∀ j (h : j < s.size), bs (hexL (s.data.toList.take (j + 1))) = bs (hexL (s.data.toList.take j)) ++ digB (s[j].toNat / 16) ++ digB (s[j].toNat % 16)) := fun j h => by
    rw [List.take_add_one, List.getElem?_eq_getElem (by rw [← size_list]; exact h)]
    show bs (hexL (_ ++ [s[j]])) = _
    rw [hexL_snoc, bs_append]
    unfold digB
    rw [show hexB s[j] = [hexd (s[j].toNat / 16)] ++ [hexd (s[j].toNat % 16)] from rfl, bs_append]
    apply ba_ext
    simp
  have HSZ : Hid (∀ j, j ≤ s.size → (bs (hexL (s.data.toList.take j))).size ≤ 2097152) := fun j hj => by
    rw [bs_size, hexL_len, List.length_take]; omega
  have HB0 := Lib.hid (Below.refl w.heap.size w)
  go_enter Try.func30, Try.ntmps30
  go_wp2_with fail
  go_loopw [3, 4] (fun tv jv wr => ∃ j : Nat, j ≤ s.size ∧ jv = .int .i64 j ∧ tv = .string (bs (hexL (s.data.toList.take j))) ∧ Hid (Below w.heap.size w wr)) (fun _ jv _ => (s.size - intOf jv).toNat)
  case atStart => exact ⟨0, Nat.zero_le _, rfl, rfl, HB0⟩
  case round =>
    obtain ⟨j, hj, rfl, rfl, HI⟩ := hrel
    by_cases hjs : j < s.size
    · obtain ⟨c, hc⟩ : ∃ c : Nat, c = s[j].toNat := ⟨_, rfl⟩
      have hc2 : c < 256 := by rw [hc]; exact s[j].toNat_lt
      have hd1 := digB_size (c / 16)
      have hd2 := digB_size (c % 16)
      have hT := HSZ.out j hj
      have HX : Hid (bs (hexL (s.data.toList.take (j + 1))) = bs (hexL (s.data.toList.take j)) ++ digB (c / 16) ++ digB (c % 16)) := by rw [hc]; exact HST.out j hjs
      have hT2 : (bs (hexL (s.data.toList.take j)) ++ digB (c / 16)).size ≤ 2097153 := by rw [ByteArray.size_append]; omega
      obtain ⟨T, hTT⟩ : ∃ T, T = bs (hexL (s.data.toList.take j)) := ⟨_, rfl⟩
      obtain ⟨D1, hD1⟩ : ∃ T, T = digB (c / 16) := ⟨_, rfl⟩
      obtain ⟨D2, hD2⟩ : ∃ T, T = digB (c % 16) := ⟨_, rfl⟩
      rw [← hD1] at hd1 HX hT2
      rw [← hD2] at hd2 HX
      rw [← hTT] at hT HX hT2
      rw [← hTT]
      have HD1 := Lib.hid hD1
      have HD2 := Lib.hid hD2
      have hw1 : IntKind.u8.wrap ((c : Int) / 16 + 1) = (c : Int) / 16 + 1 := by show _ % 256 = _; omega
      have hw2 : IntKind.u8.wrap ((c : Int) % 16 + 1) = (c : Int) % 16 + 1 := by show _ % 256 = _; omega
      have hw3 : IntKind.u8.wrap ((c : Int) / 16) = (c : Int) / 16 := by show _ % 256 = _; omega
      have hw4 : IntKind.u8.wrap ((c : Int) % 16) = (c : Int) % 16 := by show _ % 256 = _; omega
      rw [hc] at hw1 hw2 hw3 hw4
      have htm : ((s[j].toNat : Nat) : Int).tmod 16 = ((s[j].toNat : Nat) : Int) % 16 := Int.tmod_eq_emod_of_nonneg (by omega)
      have hT3 : T.size ≤ 9223372036854775806 := by omega
      have hT4 : T.size ≤ 9223372036854775805 := by omega
      clear hTT hD1 hD2
      go_wp2_with fail
      refine wp_region_noPanic ?_
      refine region_ph (A := (fun _ => True)) (e1 := 9999) (B := fun _ => True) (e2 := 9999) (C := fun _ => True) (by kernel_rfl) ⟨(trivial), fun _ => trivial, fun _ => trivial⟩ (fun hSt => ?_)
      refine take_ph 0 (.string T) [] rfl (by kernel_rfl) (fun _ _ _ h => h) (Or.inl ⟨by rfl, ?_⟩) hSt (fun hSn => ?_)
      · intro V _; go_simp
      clear hSt; rename Ph _ _ _ _ _ _ _ => hSt
      simp only [Act.put, List.setIfInBounds_toArray, List.set_cons_zero, List.set_cons_succ]
      refine take_ph 1 (.string s) [] rfl (by kernel_rfl) (fun _ _ _ h => h) (Or.inl ⟨by rfl, ?_⟩) hSt (fun hSn => ?_)
      · intro V _; go_simp
      clear hSt; rename Ph _ _ _ _ _ _ _ => hSt
      simp only [Act.put, List.setIfInBounds_toArray, List.set_cons_zero, List.set_cons_succ]
      refine take_ph 2 (.int .i64 j) [] rfl (by kernel_rfl) (fun _ _ _ h => h) (Or.inl ⟨by rfl, ?_⟩) hSt (fun hSn => ?_)
      · intro V _; go_simp
      clear hSt; rename Ph _ _ _ _ _ _ _ => hSt
      simp only [Act.put, List.setIfInBounds_toArray, List.set_cons_zero, List.set_cons_succ]
      refine take_ph 3 (.int .u8 c) [] rfl (by kernel_rfl) (fun _ _ _ h => h) (Or.inl ⟨by rfl, ?_⟩) hSt (fun hSn => ?_)
      · intro V _; go_simp
      clear hSt; rename Ph _ _ _ _ _ _ _ => hSt
      simp only [Act.put, List.setIfInBounds_toArray, List.set_cons_zero, List.set_cons_succ]
      refine take_ph 4 (.int .u8 ((c / 16 : Nat) : Int)) [] rfl (by kernel_rfl) (fun _ _ _ h => h) (Or.inl ⟨by rfl, ?_⟩) hSt (fun hSn => ?_)
      · intro V _; go_simp
      clear hSt; rename Ph _ _ _ _ _ _ _ => hSt
      simp only [Act.put, List.setIfInBounds_toArray, List.set_cons_zero, List.set_cons_succ]
      refine take_ph 5 (.string s) [] rfl (by kernel_rfl) (fun _ _ _ h => h) (Or.inl ⟨by rfl, ?_⟩) hSt (fun hSn => ?_)
      · intro V _; go_simp
      clear hSt; rename Ph _ _ _ _ _ _ _ => hSt
      simp only [Act.put, List.setIfInBounds_toArray, List.set_cons_zero, List.set_cons_succ]
      refine take_ph 6 (.int .i64 j) [] rfl (by kernel_rfl) (fun _ _ _ h => h) (Or.inl ⟨by rfl, ?_⟩) hSt (fun hSn => ?_)
      · intro V _; go_simp
      clear hSt; rename Ph _ _ _ _ _ _ _ => hSt
      simp only [Act.put, List.setIfInBounds_toArray, List.set_cons_zero, List.set_cons_succ]
      refine take_ph 7 (.int .u8 c) [] rfl (by kernel_rfl) (fun _ _ _ h => h) (Or.inl ⟨by rfl, ?_⟩) hSt (fun hSn => ?_)
      · intro V _; go_simp
      clear hSt; rename Ph _ _ _ _ _ _ _ => hSt
      simp only [Act.put, List.setIfInBounds_toArray, List.set_cons_zero, List.set_cons_succ]
      refine take_ph 8 (.int .u8 ((c / 16 : Nat) : Int)) [] rfl (by kernel_rfl) (fun _ _ _ h => h) (Or.inl ⟨by rfl, ?_⟩) hSt (fun hSn => ?_)
      · intro V _; go_simp
      clear hSt; rename Ph _ _ _ _ _ _ _ => hSt
      simp only [Act.put, List.setIfInBounds_toArray, List.set_cons_zero, List.set_cons_succ]
      refine take_ph 9 (.int .u8 ((c / 16 + 1 : Nat) : Int)) [] rfl (by kernel_rfl) (fun _ _ _ h => h) (Or.inl ⟨by rfl, ?_⟩) hSt (fun hSn => ?_)
      · intro V _; go_simp
      clear hSt; rename Ph _ _ _ _ _ _ _ => hSt
      simp only [Act.put, List.setIfInBounds_toArray, List.set_cons_zero, List.set_cons_succ]
      refine take_ph 10 (.string D1) [] rfl (by kernel_rfl) (fun _ _ _ h => h) (Or.inl ⟨by rfl, ?_⟩) hSt (fun hSn => ?_)
      · rintro V ⟨hh, _, _⟩; exact hexSl' rfl rfl rfl (by omega) HD1.out
      clear hSt; rename Ph _ _ _ _ _ _ _ => hSt
      simp only [Act.put, List.setIfInBounds_toArray, List.set_cons_zero, List.set_cons_succ]
      refine take_ph 11 (.string (T ++ D1)) [] rfl (by kernel_rfl) (fun _ _ _ h => h) (Or.inl ⟨by rfl, ?_⟩) hSt (fun hSn => ?_)
      · intro V _; go_simp
      clear hSt; rename Ph _ _ _ _ _ _ _ => hSt
      simp only [Act.put, List.setIfInBounds_toArray, List.set_cons_zero, List.set_cons_succ]
      refine take_ph 12 (.string s) [] rfl (by kernel_rfl) (fun _ _ _ h => h) (Or.inl ⟨by rfl, ?_⟩) hSt (fun hSn => ?_)
      · intro V _; go_simp
      clear hSt; rename Ph _ _ _ _ _ _ _ => hSt
      simp only [Act.put, List.setIfInBounds_toArray, List.set_cons_zero, List.set_cons_succ]
      refine take_ph 13 (.int .i64 j) [] rfl (by kernel_rfl) (fun _ _ _ h => h) (Or.inl ⟨by rfl, ?_⟩) hSt (fun hSn => ?_)
      · intro V _; go_simp
      clear hSt; rename Ph _ _ _ _ _ _ _ => hSt
      simp only [Act.put, List.setIfInBounds_toArray, List.set_cons_zero, List.set_cons_succ]
      refine take_ph 14 (.int .u8 c) [] rfl (by kernel_rfl) (fun _ _ _ h => h) (Or.inl ⟨by rfl, ?_⟩) hSt (fun hSn => ?_)
      · intro V _; go_simp
      clear hSt; rename Ph _ _ _ _ _ _ _ => hSt
      simp only [Act.put, List.setIfInBounds_toArray, List.set_cons_zero, List.set_cons_succ]
      refine take_ph 15 (.int .u8 ((c % 16 : Nat) : Int)) [] rfl (by kernel_rfl) (fun _ _ _ h => h) (Or.inl ⟨by rfl, ?_⟩) hSt (fun hSn => ?_)
      · intro V _; go_simp
      clear hSt; rename Ph _ _ _ _ _ _ _ => hSt
      simp only [Act.put, List.setIfInBounds_toArray, List.set_cons_zero, List.set_cons_succ]
      refine take_ph 16 (.string s) [] rfl (by kernel_rfl) (fun _ _ _ h => h) (Or.inl ⟨by rfl, ?_⟩) hSt (fun hSn => ?_)
      · intro V _; go_simp
      clear hSt; rename Ph _ _ _ _ _ _ _ => hSt
      simp only [Act.put, List.setIfInBounds_toArray, List.set_cons_zero, List.set_cons_succ]
      refine take_ph 17 (.int .i64 j) [] rfl (by kernel_rfl) (fun _ _ _ h => h) (Or.inl ⟨by rfl, ?_⟩) hSt (fun hSn => ?_)
      · intro V _; go_simp
      clear hSt; rename Ph _ _ _ _ _ _ _ => hSt
      simp only [Act.put, List.setIfInBounds_toArray, List.set_cons_zero, List.set_cons_succ]
      refine take_ph 18 (.int .u8 c) [] rfl (by kernel_rfl) (fun _ _ _ h => h) (Or.inl ⟨by rfl, ?_⟩) hSt (fun hSn => ?_)
      · intro V _; go_simp
      clear hSt; rename Ph _ _ _ _ _ _ _ => hSt
      simp only [Act.put, List.setIfInBounds_toArray, List.set_cons_zero, List.set_cons_succ]
      refine take_ph 19 (.int .u8 ((c % 16 : Nat) : Int)) [] rfl (by kernel_rfl) (fun _ _ _ h => h) (Or.inl ⟨by rfl, ?_⟩) hSt (fun hSn => ?_)
      · intro V _; go_simp
      clear hSt; rename Ph _ _ _ _ _ _ _ => hSt
      simp only [Act.put, List.setIfInBounds_toArray, List.set_cons_zero, List.set_cons_succ]
      refine take_ph 20 (.int .u8 ((c % 16 + 1 : Nat) : Int)) [] rfl (by kernel_rfl) (fun _ _ _ h => h) (Or.inl ⟨by rfl, ?_⟩) hSt (fun hSn => ?_)
      · intro V _; go_simp
      clear hSt; rename Ph _ _ _ _ _ _ _ => hSt
      simp only [Act.put, List.setIfInBounds_toArray, List.set_cons_zero, List.set_cons_succ]
      refine take_ph 21 (.string D2) [] rfl (by kernel_rfl) (fun _ _ _ h => h) (Or.inl ⟨by rfl, ?_⟩) hSt (fun hSn => ?_)
      · rintro V ⟨hh, _, _⟩; exact hexSl' rfl rfl rfl (by omega) HD2.out
      clear hSt; rename Ph _ _ _ _ _ _ _ => hSt
      simp only [Act.put, List.setIfInBounds_toArray, List.set_cons_zero, List.set_cons_succ]
      refine take_ph 22 (.string (T ++ D1 ++ D2)) [] rfl (by kernel_rfl) (fun _ _ _ h => h) (Or.inl ⟨by rfl, ?_⟩) hSt (fun hSn => ?_)
      · intro V _; go_simp
      clear hSt; rename Ph _ _ _ _ _ _ _ => hSt
      simp only [Act.put, List.setIfInBounds_toArray, List.set_cons_zero, List.set_cons_succ]
      refine take_ph 23 (.string (T ++ D1 ++ D2)) [] rfl (by kernel_rfl) (fun _ _ _ h => h) (Or.inl ⟨by rfl, ?_⟩) hSt (fun hSn => ?_)
      · intro V _; go_simp
      clear hSt; rename Ph _ _ _ _ _ _ _ => hSt
      simp only [Act.put, List.setIfInBounds_toArray, List.set_cons_zero, List.set_cons_succ]
      refine done_ph (by kernel_rfl) ?_ _
      clear hSt
      refine NoPanic.normal ?_
      go_wp2_with fail
      go_roundw
      case rel => exact ⟨j + 1, by omega, by go_num, by rw [HX.out], below_step HI.out (below_drew _)⟩
      case measure => simp [intOf]; omega
    · obtain rfl : j = s.size := by omega
      go_wp2_with fail
      go_ret
      exact ⟨by rw [HE.out]; rfl, HI.out⟩
theorem bs_one (c : Nat) : bs [c] = ⟨#[UInt8.ofNat c]⟩ := rfl
set_option maxRecDepth 100000 in
set_option maxHeartbeats 1000000 in
theorem rtext_ (r : Rg) (w : World) (h1 : r.f.size ≤ 1048576) (h2 : r.t.size ≤ 1048576) : Calls Try.prog 12 #[rgV r] w fun e w' => e = .returned (.string (tellR r)) ∧ Below w.heap.size w w' := by
  have H1 : Hid (∀ W, Calls Try.prog 30 #[.string r.f] W fun e w' => e = .returned (.string (bs (hexL r.f.data.toList))) ∧ Below W.heap.size W w') := fun W => rhex_ _ W h1
  have H2 : Hid (∀ W, Calls Try.prog 30 #[.string r.t] W fun e w' => e = .returned (.string (bs (hexL r.t.data.toList))) ∧ Below W.heap.size W w') := fun W => rhex_ _ W h2
  have hz1 : (bs (hexL r.f.data.toList)).size ≤ 2097152 := by rw [bs_size, hexL_len, ← size_list]; omega
  have hz2 : (bs (hexL r.t.data.toList)).size ≤ 2097152 := by rw [bs_size, hexL_len, ← size_list]; omega
  have HR : Hid (tellR r = bs ([opnC (frmE r)]) ++ bs (hexL (frmE r).t.data.toList) ++ bs [44] ++ bs (hexL (toE r).t.data.toList) ++ bs [shtC (toE r)]) := by
    show _ = _
    unfold tellR tellE
    rw [bs_append, bs_append, bs_append, bs_append]
  obtain ⟨R, hR⟩ : ∃ R, R = tellR r := ⟨_, rfl⟩
  rw [← hR] at HR
  rw [← hR]
  clear h1 h2 hR
  obtain ⟨f, t, hf, ht, pf, po⟩ := r
  unfold rgV
  dsimp only at *
  obtain ⟨A, hA⟩ : ∃ A, A = bs (hexL f.data.toList) := ⟨_, rfl⟩
  obtain ⟨B, hB⟩ : ∃ B, B = bs (hexL t.data.toList) := ⟨_, rfl⟩
  rw [← hA] at H1 hz1
  rw [← hB] at H2 hz2
  have HRa : Hid (R = bs [opnC (frmE ⟨f, t, hf, ht, pf, po⟩)] ++ (bif hf then A else ⟨#[]⟩) ++ bs [44] ++ (bif ht then B else ⟨#[]⟩) ++ bs [shtC (toE ⟨f, t, hf, ht, pf, po⟩)]) := by
    show _ = _
    rw [HR.out, hA, hB]
    cases hf <;> cases ht <;> rfl
  obtain ⟨W0, hW0⟩ : ∃ W0, W0 = w.alloc (.cells #[.string f, .string t, .bool hf, .bool ht, .bool pf, .bool po] 23) := ⟨_, rfl⟩
  have HB0 : Hid (Below w.heap.size w W0) := by show Below _ _ _; rw [hW0]; exact below_alloc w _
  have HC : Hid (∀ V, Below W0.heap.size W0 V → RgAt V w.heap.size ⟨f, t, hf, ht, pf, po⟩) := fun V hV => (by rw [hW0]; exact rgAt_new w ⟨f, t, hf, ht, pf, po⟩ 23 : RgAt W0 w.heap.size ⟨f, t, hf, ht, pf, po⟩).on hV (by rw [hW0]; simp [go_sem])
  have HBc : Hid (Below W0.heap.size W0 W0) := Below.refl _ _
  unfold RgAt at HC
  dsimp only at HC
  obtain ⟨c0, c1, c2, c3, c4, c5⟩ := HC.out W0 HBc.out
  clear HR hA hB
  have z1 : (⟨#[91]⟩ : ByteArray).size = 1 := rfl
  have z2 : (⟨#[40]⟩ : ByteArray).size = 1 := rfl
  have z3 : (⟨#[44]⟩ : ByteArray).size = 1 := rfl
  have z4 : (⟨#[93]⟩ : ByteArray).size = 1 := rfl
  have z5 : (⟨#[41]⟩ : ByteArray).size = 1 := rfl
  have z6 : (⟨#[]⟩ : ByteArray).size = 0 := rfl
  have y0 : A.size ≤ 9223372036854775000 := by omega
  have y1 : B.size ≤ 9223372036854775000 := by omega
  go_enter Try.func12, Try.ntmps12
  go_upto_region 1 with fail
  rw [← hW0]
  clear hW0
  generalize hn : w.heap.size = n at *
  have HNn := Lib.hid hn
  clear hn
  cases hf with
  | false =>
    clear H1
    cases ht <;> cases pf <;> cases po
    all_goals (
      go_wp2_with (first
        | (go_at_call 30; refine (H2.out _).mono ?_; rintro e w' ⟨rfl, hb⟩; have HBn := Lib.hid (below_step HBc.out hb); clear HBc hb H2 c0 c1 c2 c3 c4 c5; have HBc := HBn; clear HBn; obtain ⟨c0, c1, c2, c3, c4, c5⟩ := HC.out _ HBc.out)
        | fail)
      go_ret
      exact ⟨by rw [HRa.out]; rfl, by rw [HNn.out]; exact HB0.out.trans (HBc.out.mono (by rw [← HNn.out]; exact HB0.out.size))⟩)
  | true =>
    cases ht <;> cases pf <;> cases po
    all_goals (
      go_wp2_with (first
        | (go_at_call 30; refine (H1.out _).mono ?_; rintro e w' ⟨rfl, hb⟩; have HBn := Lib.hid (below_step HBc.out hb); clear HBc hb H1 c0 c1 c2 c3 c4 c5; have HBc := HBn; clear HBn; obtain ⟨c0, c1, c2, c3, c4, c5⟩ := HC.out _ HBc.out)
        | (go_at_call 30; refine (H2.out _).mono ?_; rintro e w' ⟨rfl, hb⟩; have HBn := Lib.hid (below_step HBc.out hb); clear HBc hb H2 c0 c1 c2 c3 c4 c5; have HBc := HBn; clear HBn; obtain ⟨c0, c1, c2, c3, c4, c5⟩ := HC.out _ HBc.out)
        | fail)
      go_ret
      exact ⟨by rw [HRa.out]; rfl, by rw [HNn.out]; exact HB0.out.trans (HBc.out.mono (by rw [← HNn.out]; exact HB0.out.size))⟩)
end Go.Proofs.Yteeojhmdefhlmaa
