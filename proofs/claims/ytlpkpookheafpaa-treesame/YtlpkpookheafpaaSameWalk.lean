/- The walk of TreeSame. -/
import Derived.Test.YtlpkpookheafpaaSmInv
namespace Go.Proofs.Ytlpkpookheafpaa
open Go.RowKit Go.Sort

set_option maxRecDepth 100000 in
set_option maxHeartbeats 6000000 in
theorem law_same (a a' : Option Addr) (n c n' c' : Nat) (l l' : List ByteArray) (W : World) (hn : n = l.length) (hn' : n' = l'.length) (hin : Tx W a l) (hin' : Tx W a' l') (hz : ∀ x ∈ l, x.size ≤ 1000000000000000000) :
    Calls Try.prog 5 #[.slice a n c, .slice a' n' c'] W fun e W' => e = .returned (.bool true) ∧ Below W.heap.size W W' := by
  have HN := Lib.hid (on_new W)
  have HN2 : Hid (∀ V p, On W V p [] → Calls Try.prog 7 #[] V fun e w1 => ∃ q, e = .returned (.pointer (some ⟨q, 0, none⟩)) ∧ Hid (Both W w1 p q [] [])) := fun V p h => both_new h
  have HSure : Hid (∀ V, Calls Try.prog 17 #[] V fun e w' => e = .returned (.bool true) ∧ Hid (Below V.heap.size V w')) := fun V => sure_ V
  by_cases h300 : 300 < n
  · have hgt : (300 : Int) < n := by omega
    clear hin hin' hn hn' hz h300
    go_enter Try.func5, Try.ntmps5
    go_wp2_with (first
      | (go_at_call 7; first | (refine (HN2.out _ _ H1.out).mono ?_; rintro e w2 ⟨q, rfl, H2⟩) | (refine HN.out.mono ?_; rintro e w1 ⟨p, rfl, H1⟩))
      | (go_at_call 17; refine (HSure.out _).mono ?_; rintro e w3 ⟨rfl, H3⟩)
      | fail)
    go_ret
    exact ⟨rfl, below_step H2.out.below H3.out⟩
  by_cases h301 : 300 < n'
  · have hgt : ¬ (300 : Int) < n := by omega
    have hgt' : (300 : Int) < n' := by omega
    clear hin hin' hn hn' hz h300 h301
    go_enter Try.func5, Try.ntmps5
    go_wp2_with (first
      | (go_at_call 7; first | (refine (HN2.out _ _ H1.out).mono ?_; rintro e w2 ⟨q, rfl, H2⟩) | (refine HN.out.mono ?_; rintro e w1 ⟨p, rfl, H1⟩))
      | (go_at_call 17; refine (HSure.out _).mono ?_; rintro e w3 ⟨rfl, H3⟩)
      | fail)
    go_ret
    exact ⟨rfl, below_step H2.out.below H3.out⟩
  have hgt : ¬ (300 : Int) < n := by omega
  have hgt' : ¬ (300 : Int) < n' := by omega
  have HIn : Hid (∀ V, Below W.heap.size W V → ∀ i, i < n → ∃ x b o, a = some ⟨b, o, none⟩ ∧ l[i]? = some x ∧ x.size ≤ 9223372036854775806 ∧ V.cell? ⟨b, o + i, none⟩ = some (.string x)) := fun V hV i hi => by
    obtain ⟨x, hx⟩ := getElem?_of_lt (show i < l.length by omega)
    obtain ⟨b, o, e, _, h2⟩ := hin.on hV i x hx
    exact ⟨x, b, o, e, hx, by have := hz x (List.mem_of_getElem? hx); omega, h2⟩
  have HIn2 : Hid (∀ V, Below W.heap.size W V → ∀ i, i < n' → ∃ x b o, a' = some ⟨b, o, none⟩ ∧ l'[i]? = some x ∧ V.cell? ⟨b, o + i, none⟩ = some (.string x)) := fun V hV i hi => by
    obtain ⟨x, hx⟩ := getElem?_of_lt (show i < l'.length by omega)
    obtain ⟨b, o, e, _, h2⟩ := hin'.on hV i x hx
    exact ⟨x, b, o, e, hx, h2⟩
  have HL := Lib.hid (And.intro hn (And.intro hn' hz))
  clear hin hin' hn hn' hz
  go_enter Try.func5, Try.ntmps5
  go_wp2_with (first
    | (go_at_call 7; first | (refine (HN2.out _ _ H1.out).mono ?_; rintro e w2 ⟨q, rfl, H2⟩) | (refine HN.out.mono ?_; rintro e w1 ⟨p, rfl, H1⟩))
    | fail)
  clear HN HN2 H1
  -- a: the keys with their values
  go_loopg [7] n (fun kx s7 wr => ∃ i : Nat, s7 = .int .i64 i ∧ i ≤ n ∧ n - i ≤ kx ∧ Hid (∃ la, Both W wr p q la [] ∧ P1 l i la))
  case atStart => exact ⟨0, rfl, Nat.zero_le _, by omega, ⟨[], H2.out, ⟨fun k hk => (by simp at hk), fun _ _ => get_nil _, Nat.le_refl _⟩⟩⟩
  case round =>
    clear H2
    obtain ⟨i, rfl, hi, hk, HO⟩ := hrel
    by_cases hlt : i < n
    · obtain ⟨la, ho, hP⟩ := HO.out
      obtain ⟨x, b, o, rfl, hx, hx9, h1⟩ := HIn.out wr ho.below i hlt
      have HP : Hid (Calls Try.prog 8 #[.pointer (some ⟨p, 0, none⟩), .string x, .string (kv x)] wr.drew fun e w2 => ∃ r1 r2, e = .returned (.tuple #[.string r1, .bool r2]) ∧ Hid (∃ la, Both W w2 p q la [] ∧ P1 l (i + 1) la)) := (both_putA (ho.on (below_drew wr)) (by have := hP.len; omega) x (kv x)).mono fun e w2 ⟨e1, h2⟩ => ⟨_, _, e1, _, h2, hP.step ho.srt.1 hx⟩
      have hw1 := wraps_i64 ((i : Int) + 1) (by omega) (by omega)
      clear ho hP HIn HIn2 HO hx
      go_wp2_with fail
      refine wp_region_noPanic ?_
      refine region_ph (A := fun _ => True) (e1 := 10) (B := (fun V => V.cell? ⟨b, o + i, none⟩ = some (.string x))) (e2 := 10) (C := (fun _ => True)) (by kernel_rfl) (⟨trivial, fun _ => h1, fun _ => trivial⟩) (fun hSt => ?_)
      refine take_ph 0 (.pointer (some ⟨p, 0, none⟩)) [] rfl (by kernel_rfl) (fun _ _ _ h => h) (Or.inl ⟨by rfl, ?_⟩) hSt (fun hSn => ?_)
      · intro V _; go_simp
      clear hSt; rename Ph _ _ _ _ _ _ _ => hSt
      simp only [Act.put, List.setIfInBounds_toArray, List.set_cons_zero, List.set_cons_succ]
      refine take_ph 1 (.slice (some ⟨b, o, none⟩) n c) [] rfl (by kernel_rfl) (fun _ _ _ h => h) (Or.inl ⟨by rfl, ?_⟩) hSt (fun hSn => ?_)
      · intro V _; go_simp
      clear hSt; rename Ph _ _ _ _ _ _ _ => hSt
      simp only [Act.put, List.setIfInBounds_toArray, List.set_cons_zero, List.set_cons_succ]
      refine take_ph 2 (.int .i64 i) [] rfl (by kernel_rfl) (fun _ _ _ h => h) (Or.inl ⟨by rfl, ?_⟩) hSt (fun hSn => ?_)
      · intro V _; go_simp
      clear hSt; rename Ph _ _ _ _ _ _ _ => hSt
      simp only [Act.put, List.setIfInBounds_toArray, List.set_cons_zero, List.set_cons_succ]
      refine take_ph 3 (.pointer (some ⟨b, o + i, none⟩)) [] rfl (by kernel_rfl) (fun _ _ _ h => h) (Or.inl ⟨by rfl, ?_⟩) hSt (fun hSn => ?_)
      · intro V _; go_simp
      clear hSt; rename Ph _ _ _ _ _ _ _ => hSt
      simp only [Act.put, List.setIfInBounds_toArray, List.set_cons_zero, List.set_cons_succ]
      refine take_ph 4 (.string x) [10] rfl (by kernel_rfl) (fun _ _ _ h => h) (Or.inl ⟨by rfl, ?_⟩) hSt (fun hSn => ?_)
      · rintro V ⟨_, hB, hC⟩; have hh := hB (by decide); have e0 := hh; clear hB hC; go_simp
      clear hSt; rename Ph _ _ _ _ _ _ _ => hSt
      simp only [Act.put, List.setIfInBounds_toArray, List.set_cons_zero, List.set_cons_succ]
      refine take_ph 5 (.slice (some ⟨b, o, none⟩) n c) [] rfl (by kernel_rfl) (fun _ _ _ h => h) (Or.inl ⟨by rfl, ?_⟩) hSt (fun hSn => ?_)
      · intro V _; go_simp
      clear hSt; rename Ph _ _ _ _ _ _ _ => hSt
      simp only [Act.put, List.setIfInBounds_toArray, List.set_cons_zero, List.set_cons_succ]
      refine take_ph 6 (.int .i64 i) [] rfl (by kernel_rfl) (fun _ _ _ h => h) (Or.inl ⟨by rfl, ?_⟩) hSt (fun hSn => ?_)
      · intro V _; go_simp
      clear hSt; rename Ph _ _ _ _ _ _ _ => hSt
      simp only [Act.put, List.setIfInBounds_toArray, List.set_cons_zero, List.set_cons_succ]
      refine take_ph 7 (.pointer (some ⟨b, o + i, none⟩)) [] rfl (by kernel_rfl) (fun _ _ _ h => h) (Or.inl ⟨by rfl, ?_⟩) hSt (fun hSn => ?_)
      · intro V _; go_simp
      clear hSt; rename Ph _ _ _ _ _ _ _ => hSt
      simp only [Act.put, List.setIfInBounds_toArray, List.set_cons_zero, List.set_cons_succ]
      refine take_ph 8 (.string x) [9, 10] rfl (by kernel_rfl) (fun _ _ _ h => h) (Or.inl ⟨by rfl, ?_⟩) hSt (fun hSn => ?_)
      · rintro V ⟨_, hB, hC⟩; have hh := hB (by decide); have e0 := hh; clear hB hC; go_simp
      clear hSt; rename Ph _ _ _ _ _ _ _ => hSt
      simp only [Act.put, List.setIfInBounds_toArray, List.set_cons_zero, List.set_cons_succ]
      refine take_ph 9 (.string (kv x)) [] rfl (by kernel_rfl) (fun _ _ _ h => h) (Or.inl ⟨by rfl, ?_⟩) hSt (fun hSn => ?_)
      · intro V _; go_simp
      clear hSt; rename Ph _ _ _ _ _ _ _ => hSt
      simp only [Act.put, List.setIfInBounds_toArray, List.set_cons_zero, List.set_cons_succ]
      refine ready_call_ph 10 rfl (by kernel_rfl) (fun KK hK => ?_)
      go_simp
      go_wp2_with (first | (go_at_call 8; refine HP.out.mono ?_; rintro e w2 ⟨r1, r2, rfl, H2⟩))
      refine hK.out _ _ ?_ (fun hSn => ?_)
      · exact ⟨trivial, fun h => absurd (show true = false from h) (by decide), fun _ => trivial⟩
      clear hK KK hSt; rename Ph _ _ _ _ _ _ _ => hSt
      refine done_ph (by kernel_rfl) ?_ _
      clear hSt
      refine NoPanic.normal ?_
      go_wp2_with fail
      go_roundg (n - (i + 1))
      case measure => omega
      case rel => exact ⟨i + 1, by rw [show (i : Int) + 1 = ((i + 1 : Nat) : Int) by omega], by omega, Nat.le_refl _, H2⟩
    · obtain rfl : i = n := by omega
      clear hi hk
      -- b: the others
      have HO2 : Hid (∃ la lb, Both W wr p q la lb ∧ P1 l i la ∧ P2 l' 0 lb) := by
        obtain ⟨la, ho, hP⟩ := HO.out
        exact ⟨la, [], ho, hP, fun _ _ => get_nil _, Nat.le_refl _⟩
      clear HO
      go_wp2_with fail
      go_loopg [8] n' (fun kx s8 wr => ∃ j : Nat, s8 = .int .i64 j ∧ j ≤ n' ∧ n' - j ≤ kx ∧ Hid (∃ la lb, Both W wr p q la lb ∧ P1 l i la ∧ P2 l' j lb))
      case atStart => exact ⟨0, rfl, Nat.zero_le _, by omega, HO2⟩
      case round =>
        clear HO2
        obtain ⟨j, rfl, hj, hk, HO⟩ := hrel
        by_cases hlt2 : j < n'
        · obtain ⟨la, lb, ho, hP, hP2⟩ := HO.out
          obtain ⟨x, b, o, rfl, hx, h1⟩ := HIn2.out _ ho.below j hlt2
          have HP : Hid (∀ v, Calls Try.prog 8 #[.pointer (some ⟨q, 0, none⟩), .string x, .string v] wr fun e w2 => ∃ r1 r2, e = .returned (.tuple #[.string r1, .bool r2]) ∧ Hid (∃ la lb, Both W w2 p q la lb ∧ P1 l i la ∧ P2 l' (j + 1) lb)) := fun v => (both_putB ho (by have := hP2.len; omega) x v).mono fun e w2 ⟨e1, h2⟩ => ⟨_, _, e1, _, _, h2, hP, hP2.step ho.srt.2 hx v⟩
          have hw1 := wraps_i64 ((j : Int) + 1) (by omega) (by omega)
          clear ho hP hP2 HIn HIn2 HO hx
          go_wp2_with (first
            | (go_at_call 8; refine (HP.out _).mono ?_; rintro e w2 ⟨r1, r2, rfl, H2⟩)
            | fail)
          go_roundg (n' - (j + 1))
          case measure => omega
          case rel => exact ⟨j + 1, by rw [show (j : Int) + 1 = ((j + 1 : Nat) : Int) by omega], by omega, Nat.le_refl _, H2⟩
        · obtain rfl : j = n' := by omega
          clear hj hk
          have HO3 : Hid (∃ la lb, Both W wr p q la lb ∧ P1 l i la ∧ P3 l l' i lb) := by
            obtain ⟨la, lb, ho, hP, hP2⟩ := HO.out
            refine ⟨la, lb, ho, hP, ?_⟩
            have := HL.out
            rw [this.1]
            rw [this.2.1] at hP2
            exact hP2.next
          have hwn := wraps_i64 ((i : Int) - 1) (by omega) (by omega)
          clear HO
          go_wp2_with fail
          -- b: the keys, from the last one on
          go_loopg [9] i (fun kx s9 wr => ∃ (m : Nat) (z : Int), s9 = .int .i64 z ∧ z = (m : Int) - 1 ∧ m ≤ i ∧ m ≤ kx ∧ Hid (∃ la lb, Both W wr p q la lb ∧ P1 l i la ∧ P3 l l' m lb))
          case atStart => exact ⟨i, _, rfl, rfl, Nat.le_refl _, Nat.le_refl _, HO3⟩
          case round =>
            clear HO3 hwn
            obtain ⟨m, z, rfl, hz, hm, hk, HO⟩ := hrel
            by_cases hm0 : m = 0
            · subst hm0
              obtain rfl : z = -1 := by omega
              have HO4 : Hid (∃ la lb, Both W wr p q la lb ∧ P1 l i la ∧ P4 l l' 0 lb) := by
                obtain ⟨la, lb, ho, hP, hP3⟩ := HO.out
                exact ⟨la, lb, ho, hP, hP3.next⟩
              clear HO hm hk hz
              go_wp2_with fail
              go_loopg [10] j (fun kx s10 wr => ∃ m : Nat, s10 = .int .i64 m ∧ m ≤ j ∧ j - m ≤ kx ∧ Hid (∃ la lb, Both W wr p q la lb ∧ P1 l i la ∧ P4 l l' m lb))
              case atStart => exact ⟨0, rfl, Nat.zero_le _, by omega, HO4⟩
              case round =>
                clear HO4
                obtain ⟨m, rfl, hm, hk, HO⟩ := hrel
                by_cases hlt3 : m < j
                · obtain ⟨la, lb, ho, hP, hP4⟩ := HO.out
                  obtain ⟨x, b, o, rfl, hx, h1⟩ := HIn2.out _ ho.below m hlt3
                  have hxl := block_lt_of_cell h1
                  have hw1 := wraps_i64 ((m : Int) + 1) (by omega) (by omega)
                  have hP' := hP
                  rw [HL.out.1] at hP'
                  rcases hP'.is x with ⟨hxm, hg⟩ | ⟨hxm, hg⟩
                  · have HG : Hid (Calls Try.prog 22 #[.pointer (some ⟨p, 0, none⟩), .string x] wr fun e w2 => ∃ r, e = .returned (.tuple #[.string r, .bool true]) ∧ Hid (∃ la lb, Both W w2 p q la lb ∧ P1 l i la ∧ P4 l l' (m + 1) lb)) := (both_getA ho x).mono fun e w2 ⟨e1, h2⟩ => by
                      rw [hg] at e1
                      exact ⟨_, e1, la, lb, ho.on h2, hP, hP4.stay hx hxm⟩
                    clear ho hP hP' hP4 HIn HIn2 HO hx hg hxm hxl
                    go_wp2_with (first
                      | (go_at_call 22; refine HG.out.mono ?_; rintro e w2 ⟨r, rfl, H2⟩)
                      | fail)
                    go_roundg (j - (m + 1))
                    case measure => omega
                    case rel => exact ⟨m + 1, by rw [show (m : Int) + 1 = ((m + 1 : Nat) : Int) by omega], by omega, Nat.le_refl _, H2⟩
                  · have HG : Hid (Calls Try.prog 22 #[.pointer (some ⟨p, 0, none⟩), .string x] wr fun e w2 => ∃ r, e = .returned (.tuple #[.string r, .bool false]) ∧ w2.cell? ⟨b, o + m, none⟩ = some (.string x) ∧ Hid (Calls Try.prog 10 #[.pointer (some ⟨q, 0, none⟩), .string x] w2 fun e w3 => ∃ r1 r2, e = .returned (.tuple #[.string r1, .bool r2]) ∧ Hid (∃ la lb, Both W w3 p q la lb ∧ P1 l i la ∧ P4 l l' (m + 1) lb))) := (both_getA ho x).mono fun e w2 ⟨e1, h2⟩ => by
                      rw [hg] at e1
                      refine ⟨_, e1, (h2.cell hxl).trans h1, ?_⟩
                      exact (both_dropB (ho.on h2) (by have := hP4.len; have := HL.out.1; have := HL.out.2.1; omega) x).mono fun e w3 ⟨e2, h3⟩ => ⟨_, _, e2, _, _, h3, hP, hP4.drop ho.srt.2 hx hxm⟩
                    clear ho hP hP' hP4 HIn HIn2 HO hx hg hxm hxl
                    go_wp2_with (first
                      | (go_at_call 22; refine HG.out.mono ?_; rintro e w2 ⟨r, rfl, d1, HD⟩)
                      | (go_at_call 10; refine HD.out.mono ?_; rintro e w3 ⟨r1, r2, rfl, H2⟩)
                      | fail)
                    go_roundg (j - (m + 1))
                    case measure => omega
                    case rel => exact ⟨m + 1, by rw [show (m : Int) + 1 = ((m + 1 : Nat) : Int) by omega], by omega, Nat.le_refl _, H2⟩
                · obtain rfl : m = j := by omega
                  obtain ⟨la, lb, ho, hP, hP4⟩ := HO.out
                  have hP' := hP
                  rw [HL.out.1] at hP'
                  rw [HL.out.2.1] at hP4
                  obtain rfl := hP4.same hP' ho.srt.1 ho.srt.2
                  have hll : lb.length ≤ 300 := by have := hP.len; omega
                  have HK : Hid (Calls Try.prog 16 #[.pointer (some ⟨p, 0, none⟩)] wr fun e w2 => ∃ a2 c2, e = .returned (.slice a2 lb.length c2) ∧ Hid (Both W w2 p q lb lb ∧ Tx w2 a2 (lb.map (·.1)))) := (both_keysA ho (by omega)).mono fun e w2 ⟨a2, c2, e1, hh⟩ => ⟨a2, c2, e1, ho.on hh.out.1, hh.out.2⟩
                  have HK2 : Hid (∀ V : World, Both W V p q lb lb → Calls Try.prog 16 #[.pointer (some ⟨q, 0, none⟩)] V fun e w2 => ∃ a2 c2, e = .returned (.slice a2 lb.length c2) ∧ Hid (Below V.heap.size V w2 ∧ Tx w2 a2 (lb.map (·.1)))) := fun V hV => both_keysB hV (by omega)
                  have HG : Hid (∀ (V : World) (t : Nat) (x : It), Both W V p q lb lb → lb[t]? = some x → x.1.size ≤ 9223372036854775806 ∧ Calls Try.prog 22 #[.pointer (some ⟨q, 0, none⟩), .string x.1] V fun e w2 => e = .returned (.tuple #[.string (kv x.1), .bool true]) ∧ Hid (Below V.heap.size V w2)) := fun V t x hV hx => by
                    have hm := List.mem_of_getElem? hx
                    have hg := get_of_mem hV.srt.2 hm
                    have hv := hP'.val hV.srt.2 hm
                    have hml : x.1 ∈ l := by
                      rcases hP'.is x.1 with ⟨h1, _⟩ | ⟨_, h1⟩
                      · exact h1
                      · rw [hg] at h1; cases h1
                    refine ⟨by have := HL.out.2.2 x.1 hml; omega, (both_getB hV x.1).mono fun e w2 ⟨e1, h2⟩ => ?_⟩
                    rw [hg, hv] at e1
                    exact ⟨e1, h2⟩
                  have HLn : Hid (∀ V : World, Both W V p q lb lb → (Calls Try.prog 12 #[.pointer (some ⟨p, 0, none⟩)] V fun e w' => e = .returned (.int .i64 lb.length) ∧ w' = V) ∧ (Calls Try.prog 12 #[.pointer (some ⟨q, 0, none⟩)] V fun e w' => e = .returned (.int .i64 lb.length) ∧ w' = V)) := fun V hV => both_len hV
                  have HTs : Hid (∀ (V : World) (a2 a3 : Option Addr) (c2 c3 : Nat), Tx V a2 (lb.map (·.1)) → Tx V a3 (lb.map (·.1)) → Calls Try.prog 18 #[.slice a2 lb.length c2, .slice a3 lb.length c3] V fun e w' => e = .returned (.bool true) ∧ Hid (Below V.heap.size V w')) := fun V a2 a3 c2 c3 g1 g2 => by
                    have := texts_ (ca := c2) (cb := c3) g1 g2 (by rw [List.length_map]; omega)
                    rw [List.length_map] at this
                    exact this
                  have HGe : Hid (∀ t, t < lb.length → ∃ x, lb[t]? = some x) := fun t ht => getElem?_of_lt ht
                  have HTx : Hid (∀ (V : World) (a2 : Option Addr), Tx V a2 (lb.map (·.1)) → ∀ (t : Nat) (x : It), lb[t]? = some x → ∃ b o, a2 = some ⟨b, o, none⟩ ∧ b < V.heap.size ∧ V.cell? ⟨b, o + t, none⟩ = some (.string x.1)) := fun V a2 hV t x ht => hV t x.1 (by simp [ht])
                  clear ho hP hP' hP4 HIn HIn2 HO HL hm hk hgt hgt' h300 h301
                  generalize lb.length = nl at *
                  go_wp2_with (first
                    | (go_at_call 16; refine HK.out.mono ?_; rintro e w2 ⟨a2, c2, rfl, H2⟩)
                    | fail)
                  clear HK
                  go_loopg [14] nl (fun kx s14 wr => ∃ t : Nat, s14 = .int .i64 t ∧ t ≤ nl ∧ nl - t ≤ kx ∧ Hid (Both W wr p q lb lb ∧ Tx wr a2 (lb.map (·.1))))
                  case atStart => exact ⟨0, rfl, Nat.zero_le _, by omega, H2⟩
                  case round =>
                    clear H2
                    obtain ⟨t, rfl, ht, hk, HS⟩ := hrel
                    by_cases hlt4 : t < nl
                    · obtain ⟨x, hx⟩ := HGe.out t hlt4
                      obtain ⟨b, o, rfl, hbl, h1⟩ := HTx.out _ _ HS.out.2 t x hx
                      obtain ⟨hx9, hgc⟩ := HG.out _ t x HS.out.1 hx
                      have HGc : Hid (Calls Try.prog 22 #[.pointer (some ⟨q, 0, none⟩), .string x.1] wr fun e w3 => e = .returned (.tuple #[.string (kv x.1), .bool true]) ∧ w3.cell? ⟨b, o + t, none⟩ = some (.string x.1) ∧ Hid (Both W w3 p q lb lb ∧ Tx w3 (some ⟨b, o, none⟩) (lb.map (·.1)))) := hgc.mono fun e w3 ⟨e1, h3⟩ => ⟨e1, (h3.out.cell hbl).trans h1, HS.out.1.on h3.out, HS.out.2.on h3.out⟩
                      have hw1 := wraps_i64 ((t : Int) + 1) (by omega) (by omega)
                      clear hgc hx HGe HTx HG HS HLn HTs HK2 HSure hbl
                      obtain ⟨x1, x2⟩ := x
                      simp only at h1 HGc hx9
                      go_wp2_with (first
                        | (go_at_call 22; refine HGc.out.mono ?_; rintro e w3 ⟨rfl, d1, H3⟩)
                        | fail)
                      go_roundg (nl - (t + 1))
                      case measure => omega
                      case rel => exact ⟨t + 1, by rw [show (t : Int) + 1 = ((t + 1 : Nat) : Int) by omega], by omega, Nat.le_refl _, H3⟩
                    · obtain rfl : t = nl := by omega
                      clear HGe HTx HG
                      go_wp2_with (first
                        | (go_at_call 16; refine (HK2.out _ HS.out.1).mono ?_; rintro e w3 ⟨a3, c3, rfl, H3⟩; have HS3 := Lib.hid (And.intro (HS.out.1.on H3.out.1) (And.intro (HS.out.2.on H3.out.1) H3.out.2)); clear H3 HS)
                        | (go_at_call 18; refine (HTs.out _ _ _ _ _ HS3.out.2.1 HS3.out.2.2).mono ?_; rintro e w4 ⟨rfl, H4⟩; have HS4 := Lib.hid (HS3.out.1.on H4.out); clear H4 HS3)
                        | (go_at_call_of 12 (#[.pointer (some ⟨p, 0, none⟩)] : Array Value); refine (HLn.out _ HS4.out).1.mono ?_; rintro e w5 ⟨rfl, hw⟩; have hw := hw.symm; subst hw)
                        | (go_at_call_of 12 (#[.pointer (some ⟨q, 0, none⟩)] : Array Value); refine (HLn.out _ HS4.out).2.mono ?_; rintro e w5 ⟨rfl, hw⟩; have hw := hw.symm; subst hw)
                        | (go_at_call 17; refine (HSure.out _).mono ?_; rintro e w6 ⟨rfl, H6⟩)
                        | fail)
                      go_ret
                      exact ⟨rfl, below_step HS4.out.below H6.out⟩
            · obtain ⟨m2, rfl⟩ : ∃ m2, m = m2 + 1 := ⟨m - 1, by omega⟩
              obtain rfl : z = (m2 : Int) := by omega
              obtain ⟨la, lb, ho, hP, hP3⟩ := HO.out
              obtain ⟨x, b, o, rfl, hx, hx9, h1⟩ := HIn.out _ ho.below m2 (by omega)
              have HP : Hid (Calls Try.prog 8 #[.pointer (some ⟨q, 0, none⟩), .string x, .string (kv x)] wr.drew fun e w2 => ∃ r1 r2, e = .returned (.tuple #[.string r1, .bool r2]) ∧ Hid (∃ la lb, Both W w2 p q la lb ∧ P1 l i la ∧ P3 l l' m2 lb)) := (both_putB (ho.on (below_drew wr)) (by have := hP3.len; have := HL.out.1; have := HL.out.2.1; omega) x (kv x)).mono fun e w2 ⟨e1, h2⟩ => ⟨_, _, e1, _, _, h2, hP, hP3.step ho.srt.2 hx⟩
              have hw1 := wraps_i64 ((m2 : Int) - 1) (by omega) (by omega)
              have hlt3 : (m2 : Int) < (i : Int) := by omega
              clear ho hP hP3 HIn HIn2 HO hx hz hm0
              go_wp2_with fail
              refine wp_region_noPanic ?_
              refine region_ph (A := fun _ => True) (e1 := 10) (B := (fun V => V.cell? ⟨b, o + m2, none⟩ = some (.string x))) (e2 := 10) (C := (fun _ => True)) (by kernel_rfl) (⟨trivial, fun _ => h1, fun _ => trivial⟩) (fun hSt => ?_)
              refine take_ph 0 (.pointer (some ⟨q, 0, none⟩)) [] rfl (by kernel_rfl) (fun _ _ _ h => h) (Or.inl ⟨by rfl, ?_⟩) hSt (fun hSn => ?_)
              · intro V _; go_simp
              clear hSt; rename Ph _ _ _ _ _ _ _ => hSt
              simp only [Act.put, List.setIfInBounds_toArray, List.set_cons_zero, List.set_cons_succ]
              refine take_ph 1 (.slice (some ⟨b, o, none⟩) i c) [] rfl (by kernel_rfl) (fun _ _ _ h => h) (Or.inl ⟨by rfl, ?_⟩) hSt (fun hSn => ?_)
              · intro V _; go_simp
              clear hSt; rename Ph _ _ _ _ _ _ _ => hSt
              simp only [Act.put, List.setIfInBounds_toArray, List.set_cons_zero, List.set_cons_succ]
              refine take_ph 2 (.int .i64 m2) [] rfl (by kernel_rfl) (fun _ _ _ h => h) (Or.inl ⟨by rfl, ?_⟩) hSt (fun hSn => ?_)
              · intro V _; go_simp
              clear hSt; rename Ph _ _ _ _ _ _ _ => hSt
              simp only [Act.put, List.setIfInBounds_toArray, List.set_cons_zero, List.set_cons_succ]
              refine take_ph 3 (.pointer (some ⟨b, o + m2, none⟩)) [] rfl (by kernel_rfl) (fun _ _ _ h => h) (Or.inl ⟨by rfl, ?_⟩) hSt (fun hSn => ?_)
              · intro V _; go_simp
              clear hSt; rename Ph _ _ _ _ _ _ _ => hSt
              simp only [Act.put, List.setIfInBounds_toArray, List.set_cons_zero, List.set_cons_succ]
              refine take_ph 4 (.string x) [10] rfl (by kernel_rfl) (fun _ _ _ h => h) (Or.inl ⟨by rfl, ?_⟩) hSt (fun hSn => ?_)
              · rintro V ⟨_, hB, hC⟩; have hh := hB (by decide); have e0 := hh; clear hB hC; go_simp
              clear hSt; rename Ph _ _ _ _ _ _ _ => hSt
              simp only [Act.put, List.setIfInBounds_toArray, List.set_cons_zero, List.set_cons_succ]
              refine take_ph 5 (.slice (some ⟨b, o, none⟩) i c) [] rfl (by kernel_rfl) (fun _ _ _ h => h) (Or.inl ⟨by rfl, ?_⟩) hSt (fun hSn => ?_)
              · intro V _; go_simp
              clear hSt; rename Ph _ _ _ _ _ _ _ => hSt
              simp only [Act.put, List.setIfInBounds_toArray, List.set_cons_zero, List.set_cons_succ]
              refine take_ph 6 (.int .i64 m2) [] rfl (by kernel_rfl) (fun _ _ _ h => h) (Or.inl ⟨by rfl, ?_⟩) hSt (fun hSn => ?_)
              · intro V _; go_simp
              clear hSt; rename Ph _ _ _ _ _ _ _ => hSt
              simp only [Act.put, List.setIfInBounds_toArray, List.set_cons_zero, List.set_cons_succ]
              refine take_ph 7 (.pointer (some ⟨b, o + m2, none⟩)) [] rfl (by kernel_rfl) (fun _ _ _ h => h) (Or.inl ⟨by rfl, ?_⟩) hSt (fun hSn => ?_)
              · intro V _; go_simp
              clear hSt; rename Ph _ _ _ _ _ _ _ => hSt
              simp only [Act.put, List.setIfInBounds_toArray, List.set_cons_zero, List.set_cons_succ]
              refine take_ph 8 (.string x) [9, 10] rfl (by kernel_rfl) (fun _ _ _ h => h) (Or.inl ⟨by rfl, ?_⟩) hSt (fun hSn => ?_)
              · rintro V ⟨_, hB, hC⟩; have hh := hB (by decide); have e0 := hh; clear hB hC; go_simp
              clear hSt; rename Ph _ _ _ _ _ _ _ => hSt
              simp only [Act.put, List.setIfInBounds_toArray, List.set_cons_zero, List.set_cons_succ]
              refine take_ph 9 (.string (kv x)) [] rfl (by kernel_rfl) (fun _ _ _ h => h) (Or.inl ⟨by rfl, ?_⟩) hSt (fun hSn => ?_)
              · intro V _; go_simp
              clear hSt; rename Ph _ _ _ _ _ _ _ => hSt
              simp only [Act.put, List.setIfInBounds_toArray, List.set_cons_zero, List.set_cons_succ]
              refine ready_call_ph 10 rfl (by kernel_rfl) (fun KK hK => ?_)
              go_simp
              go_wp2_with (first | (go_at_call 8; refine HP.out.mono ?_; rintro e w2 ⟨r1, r2, rfl, H2⟩))
              refine hK.out _ _ ?_ (fun hSn => ?_)
              · exact ⟨trivial, fun h => absurd (show true = false from h) (by decide), fun _ => trivial⟩
              clear hK KK hSt; rename Ph _ _ _ _ _ _ _ => hSt
              refine done_ph (by kernel_rfl) ?_ _
              clear hSt
              refine NoPanic.normal ?_
              go_wp2_with fail
              go_roundg m2
              case measure => omega
              case rel => exact ⟨m2, _, rfl, rfl, by omega, Nat.le_refl _, H2⟩
end Go.Proofs.Ytlpkpookheafpaa
