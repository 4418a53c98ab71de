/- The walk of TreeShape. -/
import Derived.Test.YtlpkpookheafpaaShShaped
import Derived.Test.YtlpkpookheafpaaVActs
import Derived.Test.YtlpkpookheafpaaSmMem
namespace Go.Proofs.Ytlpkpookheafpaa
open Go.RowKit Go.Sort

theorem on_drop {W w : World} {p : Nat} {l : List It} (h : On W w p l) (hl : l.length ≤ 1000000) (k : ByteArray) : Calls Try.prog 10 #[.pointer (some ⟨p, 0, none⟩), .string k] w fun e w' => e = .returned (.tuple #[.string ((get k l).getD ⟨#[]⟩), .bool (get k l).isSome]) ∧ On W w' p (del k l) := by
  obtain ⟨M, F, h1, h2⟩ := h.ex
  exact (tdrop_ h1.st h2 hl k).mono fun e w' ⟨e1, M', F', hk, ht⟩ => ⟨e1, ⟨M', F', h1.kept h.lo hk, ht⟩, h.lo⟩
theorem on_keys {W w : World} {p : Nat} {l : List It} (h : On W w p l) (hl : l.length ≤ 100000) : Calls Try.prog 16 #[.pointer (some ⟨p, 0, none⟩)] w fun e w2 => ∃ a2 c2, e = .returned (.slice a2 l.length c2) ∧ Hid (On W w2 p l ∧ Tx w2 a2 (l.map (·.1))) := by
  obtain ⟨M, F, h1, h2⟩ := h.ex
  refine (tkeys_ h1.st h2 hl).mono fun e w2 ⟨a2, n2, c2, e1, hr, hb, _⟩ => ?_
  obtain ⟨e2, e3, _⟩ := hr.tx
  simp only [List.length_map] at e2
  subst e2
  exact ⟨a2, c2, e1, h.on hb, e3⟩
theorem on_len {W w : World} {p : Nat} {l : List It} (h : On W w p l) : Calls Try.prog 12 #[.pointer (some ⟨p, 0, none⟩)] w fun e w' => e = .returned (.int .i64 l.length) ∧ w' = w := by
  obtain ⟨M, F, h1, h2⟩ := h.ex
  exact len_ h2
/-- Shape, and what shaped tells of it. -/
theorem on_shape {W w : World} {p : Nat} {l : List It} (h : On W w p l) (hl : l.length ≤ 1000) : Calls Try.prog 21 #[.pointer (some ⟨p, 0, none⟩)] w fun e w' => ∃ a m c, e = .returned (.slice a m c) ∧ Hid (On W w' p l) ∧ Hid (Calls Try.prog 20 #[.slice a m c, .int .i64 l.length] w' fun e w2 => e = .returned (.bool true) ∧ w2 = w') := by
  obtain ⟨M, F, h1, h2⟩ := h.ex
  refine (shape_ h1.st h2 hl).mono fun e w' ⟨a, m, c, R, e1, hr, hb, hc⟩ => ⟨a, m, c, e1, h.on hb, ?_⟩
  obtain ⟨a', c', e2, hin⟩ := hr.rows
  simp only [Value.slice.injEq] at e2
  obtain ⟨rfl, rfl, rfl⟩ := e2
  rcases hc with ⟨rfl, rfl⟩ | ⟨hne, hs, ht⟩
  · exact shaped_zero w' _ _
  · have hp : 1 ≤ l.length := by
      cases R with
      | nil => exact absurd rfl hne
      | cons r rs =>
        have h1 := shp_few hs
        have h2 : 0 < 4 ^ rs.length := Nat.pow_pos (by omega)
        omega
    exact shaped_ hin hne hs ht hl hp
set_option maxRecDepth 100000 in
set_option maxHeartbeats 4000000 in
theorem law_shape (a : Option Addr) (n c : Nat) (f : Nat → ActV) (W : World) (hin : ActsAt W a n f) :
    Calls Try.prog 4 #[.slice a n c] W fun e W' => e = .returned (.bool true) ∧ Below W.heap.size W W' := by
  have HN := Lib.hid (on_new W)
  have HSure : Hid (∀ V, Calls Try.prog 17 #[] V fun e w' => e = .returned (.bool true) ∧ Hid (Below V.heap.size V w')) := fun V => sure_ V
  have HIn : Hid (∀ V, Below W.heap.size W V → ∀ i, i < n → ∃ z k x b o, a = some ⟨b, o, none⟩ ∧ V.cell? ⟨b, o + i * 3, none⟩ = some (.int .i64 z) ∧ V.cell? ⟨b, o + i * 3 + 1, none⟩ = some (.string k) ∧ V.cell? ⟨b, o + i * 3 + 2, none⟩ = some (.string x)) := fun V hV i hi => by
    obtain ⟨⟨b, o, e, h1, h2, h3⟩, _⟩ := hin.on rfl hV i hi
    exact ⟨_, _, _, b, o, e, h1, h2, h3⟩
  clear hin
  go_enter Try.func4, Try.ntmps4
  go_wp2_with (first
    | (go_at_call 7; refine HN.out.mono ?_; rintro e w1 ⟨p, rfl, H1⟩)
    | fail)
  clear HN
  go_loopg [4] n (fun kx s4 wr => ∃ i : Nat, s4 = .int .i64 i ∧ i ≤ n ∧ i ≤ 300 ∧ n - i ≤ kx ∧ Hid (∃ lt, On W wr p lt ∧ lt.length ≤ i))
  case atStart => exact ⟨0, rfl, Nat.zero_le _, Nat.zero_le _, by omega, ⟨[], H1.out, Nat.le_refl _⟩⟩
  case round =>
    clear H1
    obtain ⟨i, rfl, hi, hi3, hk, HO⟩ := hrel
    by_cases hgo : i < n ∧ i < 300
    · obtain ⟨hlt, hlt3⟩ := hgo
      obtain ⟨lt, ho, hll⟩ := HO.out
      obtain ⟨z, kk, x, b, o, rfl, h0, h1, h2⟩ := HIn.out wr ho.below i hlt
      have hsr := ho.srt
      have hw1 := wraps_i64 ((i : Int) + 1) (by omega) (by omega)
      have hlt' : (i : Int) < (n : Int) := by omega
      have hlt3' : (i : Int) < 300 := by omega
      obtain ⟨ar, har⟩ : ∃ ar : Nat, (z % 18446744073709551616) % 4 = (ar : Int) := ⟨((z % 18446744073709551616) % 4).toNat, by omega⟩
      have hwz : IntKind.u64.wrap z = z % 18446744073709551616 := by rw [IntKind.wrap_u64]
      have hwr : IntKind.u64.wrap ((z % 18446744073709551616) % 4) = (ar : Int) := by rw [har, IntKind.wrap_u64]; omega
      have hwa2 := wraps_i64 (ar : Int) (by omega) (by omega)
      have ht1 : (z % 18446744073709551616).tmod 4 = (ar : Int) := by rw [Int.tmod_eq_emod_of_nonneg (by omega)]; exact har
      have HSh : Hid (∀ V l2, On W V p l2 ∧ l2.length ≤ i + 1 → (Calls Try.prog 21 #[.pointer (some ⟨p, 0, none⟩)] V fun e w' => ∃ a m c, e = .returned (.slice a m c) ∧ Hid (On W w' p l2) ∧ Hid (Calls Try.prog 20 #[.slice a m c, .int .i64 l2.length] w' fun e w2 => e = .returned (.bool true) ∧ w2 = w'))) := fun V l2 hV => on_shape hV.1 (by omega)
      have HLn : Hid (∀ V l2, On W V p l2 → Calls Try.prog 12 #[.pointer (some ⟨p, 0, none⟩)] V fun e w' => e = .returned (.int .i64 l2.length) ∧ w' = V) := fun V l2 hV => on_len hV
      by_cases har2 : ar = 2
      · subst har2
        have HD : Hid (Calls Try.prog 10 #[.pointer (some ⟨p, 0, none⟩), .string kk] wr fun e w2 => ∃ r1 r2, e = .returned (.tuple #[.string r1, .bool r2]) ∧ Hid (On W w2 p (del kk lt) ∧ (del kk lt).length ≤ i + 1)) := (on_drop ho (by omega) kk).mono fun e w2 ⟨e1, g2⟩ => ⟨_, _, e1, g2, Nat.le_trans (del_le hsr kk) (by omega)⟩
        obtain ⟨l2, hl2⟩ : ∃ l2, l2 = del kk lt := ⟨_, rfl⟩
        rw [← hl2] at HD
        clear ho hll HIn HO hsr hl2 har
        go_wp2_with (first
          | (go_at_call 10; refine HD.out.mono ?_; rintro e w2 ⟨r1, r2, rfl, H2⟩)
          | (go_at_call 21; refine (HSh.out _ _ H2.out).mono ?_; rintro e w3 ⟨a3, m3, c3, rfl, H3, H4⟩)
          | (go_at_call 12; refine (HLn.out _ _ H3.out).mono ?_; rintro e w4 ⟨rfl, hw⟩; have hw := hw.symm; subst hw)
          | (go_at_call 20; refine H4.out.mono ?_; rintro e w5 ⟨rfl, hw⟩; have hw := hw.symm; subst hw)
          | fail)
        go_roundg (n - (i + 1))
        case measure => omega
        case rel => exact ⟨i + 1, by rw [show (i : Int) + 1 = ((i + 1 : Nat) : Int) by omega], by omega, by omega, Nat.le_refl _, ⟨l2, H3.out, H2.out.2⟩⟩
      · have hn2 : ((ar : Int) == 2) = false := beq_false_of_ne (by omega)
        have hn2' : ¬ (ar : Int) = 2 := by omega
        have HP : Hid (Calls Try.prog 8 #[.pointer (some ⟨p, 0, none⟩), .string kk, .string x] wr.drew fun e w2 => ∃ r1 r2, e = .returned (.tuple #[.string r1, .bool r2]) ∧ Hid (On W w2 p (ins kk x lt) ∧ (ins kk x lt).length ≤ i + 1)) := (on_put (ho.on (below_drew wr)) (by omega) kk x).mono fun e w2 ⟨e1, g2⟩ => ⟨_, _, e1, g2, Nat.le_trans (ins_le hsr _ _) (by omega)⟩
        obtain ⟨l2, hl2⟩ : ∃ l2, l2 = ins kk x lt := ⟨_, rfl⟩
        rw [← hl2] at HP
        have HF1 : Hid (∀ V : World, (V.cell? ⟨b, o + i * 3 + 1, none⟩ = some (.string kk) ∧ V.cell? ⟨b, o + i * 3 + 2, none⟩ = some (.string x)) → V.cell? ⟨b, o + i * 3 + 1, none⟩ = some (.string kk)) := fun V h => h.1
        have HF2 : Hid (∀ V : World, (V.cell? ⟨b, o + i * 3 + 1, none⟩ = some (.string kk) ∧ V.cell? ⟨b, o + i * 3 + 2, none⟩ = some (.string x)) → V.cell? ⟨b, o + i * 3 + 2, none⟩ = some (.string x)) := fun V h => h.2
        clear ho hll HIn HO hsr hl2 har
        go_wp2_with fail
        refine wp_region_noPanic ?_
        refine region_ph (A := fun _ => True) (e1 := 11) (B := (fun V => V.cell? ⟨b, o + i * 3 + 1, none⟩ = some (.string kk) ∧ V.cell? ⟨b, o + i * 3 + 2, none⟩ = some (.string x))) (e2 := 11) (C := (fun _ => True)) (by kernel_rfl) (⟨trivial, fun _ => ⟨h1, h2⟩, fun _ => trivial⟩) (fun hSt => ?_)
        refine take_ph 0 (.pointer (some ⟨p, 0, none⟩)) [] rfl (by kernel_rfl) (fun _ _ _ h => h) (Or.inl ⟨by rfl, ?_⟩) hSt (fun hSn => ?_)
        · intro V _; go_simp
        clear hSt; rename Ph _ _ _ _ _ _ _ => hSt
        simp only [Act.put, List.setIfInBounds_toArray, List.set_cons_zero, List.set_cons_succ]
        refine take_ph 1 (.slice (some ⟨b, o, none⟩) n c) [] rfl (by kernel_rfl) (fun _ _ _ h => h) (Or.inl ⟨by rfl, ?_⟩) hSt (fun hSn => ?_)
        · intro V _; go_simp
        clear hSt; rename Ph _ _ _ _ _ _ _ => hSt
        simp only [Act.put, List.setIfInBounds_toArray, List.set_cons_zero, List.set_cons_succ]
        refine take_ph 2 (.int .i64 i) [] rfl (by kernel_rfl) (fun _ _ _ h => h) (Or.inl ⟨by rfl, ?_⟩) hSt (fun hSn => ?_)
        · intro V _; go_simp
        clear hSt; rename Ph _ _ _ _ _ _ _ => hSt
        simp only [Act.put, List.setIfInBounds_toArray, List.set_cons_zero, List.set_cons_succ]
        refine take_ph 3 (.pointer (some ⟨b, o + i * 3, none⟩)) [] rfl (by kernel_rfl) (fun _ _ _ h => h) (Or.inl ⟨by rfl, ?_⟩) hSt (fun hSn => ?_)
        · intro V _; go_simp
        clear hSt; rename Ph _ _ _ _ _ _ _ => hSt
        simp only [Act.put, List.setIfInBounds_toArray, List.set_cons_zero, List.set_cons_succ]
        refine take_ph 4 (.pointer (some ⟨b, o + i * 3 + 1, none⟩)) [] rfl (by kernel_rfl) (fun _ _ _ h => h) (Or.inl ⟨by rfl, ?_⟩) hSt (fun hSn => ?_)
        · intro V _; go_simp
        clear hSt; rename Ph _ _ _ _ _ _ _ => hSt
        simp only [Act.put, List.setIfInBounds_toArray, List.set_cons_zero, List.set_cons_succ]
        refine take_ph 5 (.string kk) [11] rfl (by kernel_rfl) (fun _ _ _ h => h) (Or.inl ⟨by rfl, ?_⟩) hSt (fun hSn => ?_)
        · rintro V ⟨_, hB, hC⟩; have hh := hB (by decide); have e0 := HF1.out V hh; clear hB hC; go_simp
        clear hSt; rename Ph _ _ _ _ _ _ _ => hSt
        simp only [Act.put, List.setIfInBounds_toArray, List.set_cons_zero, List.set_cons_succ]
        refine take_ph 6 (.slice (some ⟨b, o, none⟩) n c) [] rfl (by kernel_rfl) (fun _ _ _ h => h) (Or.inl ⟨by rfl, ?_⟩) hSt (fun hSn => ?_)
        · intro V _; go_simp
        clear hSt; rename Ph _ _ _ _ _ _ _ => hSt
        simp only [Act.put, List.setIfInBounds_toArray, List.set_cons_zero, List.set_cons_succ]
        refine take_ph 7 (.int .i64 i) [] rfl (by kernel_rfl) (fun _ _ _ h => h) (Or.inl ⟨by rfl, ?_⟩) hSt (fun hSn => ?_)
        · intro V _; go_simp
        clear hSt; rename Ph _ _ _ _ _ _ _ => hSt
        simp only [Act.put, List.setIfInBounds_toArray, List.set_cons_zero, List.set_cons_succ]
        refine take_ph 8 (.pointer (some ⟨b, o + i * 3, none⟩)) [] rfl (by kernel_rfl) (fun _ _ _ h => h) (Or.inl ⟨by rfl, ?_⟩) hSt (fun hSn => ?_)
        · intro V _; go_simp
        clear hSt; rename Ph _ _ _ _ _ _ _ => hSt
        simp only [Act.put, List.setIfInBounds_toArray, List.set_cons_zero, List.set_cons_succ]
        refine take_ph 9 (.pointer (some ⟨b, o + i * 3 + 2, none⟩)) [] rfl (by kernel_rfl) (fun _ _ _ h => h) (Or.inl ⟨by rfl, ?_⟩) hSt (fun hSn => ?_)
        · intro V _; go_simp
        clear hSt; rename Ph _ _ _ _ _ _ _ => hSt
        simp only [Act.put, List.setIfInBounds_toArray, List.set_cons_zero, List.set_cons_succ]
        refine take_ph 10 (.string x) [11] rfl (by kernel_rfl) (fun _ _ _ h => h) (Or.inl ⟨by rfl, ?_⟩) hSt (fun hSn => ?_)
        · rintro V ⟨_, hB, hC⟩; have hh := hB (by decide); have e0 := HF2.out V hh; clear hB hC; go_simp
        clear hSt; rename Ph _ _ _ _ _ _ _ => hSt
        simp only [Act.put, List.setIfInBounds_toArray, List.set_cons_zero, List.set_cons_succ]
        refine ready_call_ph 11 rfl (by kernel_rfl) (fun KK hK => ?_)
        go_simp
        go_wp2_with (first | (go_at_call 8; refine HP.out.mono ?_; rintro e w2 ⟨r1, r2, rfl, H2⟩))
        refine hK.out _ _ ?_ (fun hSn => ?_)
        · exact ⟨trivial, fun h => absurd (show true = false from h) (by decide), fun _ => trivial⟩
        clear hK KK hSt; rename Ph _ _ _ _ _ _ _ => hSt
        refine done_ph (by kernel_rfl) ?_ _
        clear hSt
        refine NoPanic.normal ?_
        go_wp2_with (first
          | (go_at_call 21; refine (HSh.out _ _ H2.out).mono ?_; rintro e w3 ⟨a3, m3, c3, rfl, H3, H4⟩)
          | (go_at_call 12; refine (HLn.out _ _ H3.out).mono ?_; rintro e w4 ⟨rfl, hw⟩; have hw := hw.symm; subst hw)
          | (go_at_call 20; refine H4.out.mono ?_; rintro e w5 ⟨rfl, hw⟩; have hw := hw.symm; subst hw)
          | fail)
        go_roundg (n - (i + 1))
        case measure => omega
        case rel => exact ⟨i + 1, by rw [show (i : Int) + 1 = ((i + 1 : Nat) : Int) by omega], by omega, by omega, Nat.le_refl _, ⟨l2, H3.out, H2.out.2⟩⟩
    · have hex : (¬ (i : Int) < (n : Int)) ∨ ((i : Int) < (n : Int) ∧ ¬ (i : Int) < 300) := by omega
      obtain ⟨lt, ho, hll⟩ := HO.out
      have hsr := ho.srt
      have HK := Lib.hid (on_keys ho (by omega))
      have HLn : Hid (∀ V, On W V p lt → Calls Try.prog 12 #[.pointer (some ⟨p, 0, none⟩)] V fun e w' => e = .returned (.int .i64 lt.length) ∧ w' = V) := fun V hV => on_len hV
      have HTx : Hid (∀ (V : World) (a2 : Option Addr), Tx V a2 (lt.map (·.1)) → ∀ t, t + 1 < lt.length → ∃ b o x y, a2 = some ⟨b, o, none⟩ ∧ V.cell? ⟨b, o + t, none⟩ = some (.string x) ∧ V.cell? ⟨b, o + (t + 1), none⟩ = some (.string y) ∧ Op.bytesLess x.toList y.toList = true) := fun V a2 hV t ht => by
        obtain ⟨x, hx⟩ := getElem?_of_lt (show t < lt.length by omega)
        obtain ⟨y, hy⟩ := getElem?_of_lt ht
        obtain ⟨b, o, e, _, g1⟩ := hV t x.1 (by simp [hx])
        obtain ⟨b', o', e', _, g2⟩ := hV (t + 1) y.1 (by simp [hy])
        rw [e] at e'
        cases e'
        exact ⟨b, o, x.1, y.1, e, g1, g2, hsr.at (by omega) hx hy⟩
      have hll3 : lt.length ≤ 300 := by omega
      clear ho hll HIn HO hsr hk hi hi3 hgo
      generalize lt.length = nl at *
      rcases hex with hx1 | ⟨hx1, hx2⟩
      all_goals
        go_wp2_with (first
          | (go_at_call 16; refine HK.out.mono ?_; rintro e w2 ⟨a2, c2, rfl, H2⟩)
          | fail)
        clear HK
        go_loopg [6] nl (fun kx s6 wr => ∃ t : Nat, s6 = .int .i64 (t + 1 : Nat) ∧ (t + 1 ≤ nl ∨ t = 0) ∧ nl - t ≤ kx ∧ Hid (On W wr p lt ∧ Tx wr a2 (lt.map (·.1))))
        case atStart => exact ⟨0, rfl, .inr rfl, by omega, H2⟩
        case round =>
          clear H2
          obtain ⟨t, rfl, ht, hkx, HS⟩ := hrel
          by_cases hlt4 : t + 1 < nl
          · obtain ⟨b, o, x, y, rfl, g1, g2, hxy⟩ := HTx.out _ _ HS.out.2 t hlt4
            have hw1 := wraps_i64 (((t + 1 : Nat) : Int) + 1) (by omega) (by omega)
            have hw2 := wraps_i64 (((t + 1 : Nat) : Int) - 1) (by omega) (by omega)
            have hsub : ((t + 1 : Nat) : Int) - 1 = (t : Int) := by omega
            have HSd : Hid (On W wr.drew p lt ∧ Tx wr.drew (some ⟨b, o, none⟩) (lt.map (·.1))) := ⟨HS.out.1.on (below_drew wr), HS.out.2.on (below_drew wr)⟩
            obtain ⟨u, hu⟩ : ∃ u, u = t + 1 := ⟨_, rfl⟩
            rw [← hu] at hw1 hw2 hsub g2 hlt4 ⊢
            have HU := Lib.hid hu
            have hu1 : 1 ≤ u := by omega
            have htl : t < nl := by omega
            have hwt := wraps_i64 (t : Int) (by omega) (by omega)
            clear HTx HS HLn HSure hu ht
            go_wp2_with fail
            go_region_held (fun V => V.cell? ⟨b, o + t, none⟩ = some (.string x) ∧ V.cell? ⟨b, o + u, none⟩ = some (.string y)) (go_keep) (fail)
            go_wp2_with fail
            go_roundg (nl - u)
            case measure => have := HU.out; omega
            case rel => exact ⟨u, by rw [show (u : Int) + 1 = ((u + 1 : Nat) : Int) by omega], by omega, Nat.le_refl _, HSd⟩
          · clear HTx
            have hge : ¬ ((t + 1 : Nat) : Int) < (nl : Int) := by omega
            obtain ⟨u, hu⟩ : ∃ u, u = t + 1 := ⟨_, rfl⟩
            rw [← hu] at hge ⊢
            clear hu ht hkx hlt4
            go_wp2_with (first
              | (go_at_call 12; refine (HLn.out _ HS.out.1).mono ?_; rintro e w5 ⟨rfl, hw⟩; have hw := hw.symm; subst hw)
              | (go_at_call 17; refine (HSure.out _).mono ?_; rintro e w6 ⟨rfl, H6⟩)
              | fail)
            go_ret
            exact ⟨rfl, below_step HS.out.1.below H6.out⟩
end Go.Proofs.Ytlpkpookheafpaa
