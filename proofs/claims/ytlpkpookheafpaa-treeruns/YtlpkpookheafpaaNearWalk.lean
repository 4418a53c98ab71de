/- The walk of TreeNear. -/
import Derived.Test.YtlpkpookheafpaaVSure
import Derived.Test.YtlpkpookheafpaaVLast
import Derived.Test.YtlpkpookheafpaaVTo
namespace Go.Proofs.Ytlpkpookheafpaa
open Go.RowKit Go.Sort

theorem Srt.at {l : List It} (h : Srt l) {i j : Nat} {x y : It} (hij : i < j) (hi : l[i]? = some x) (hj : l[j]? = some y) : ltb x.1 y.1 = true := by
  obtain ⟨h1, e1⟩ := List.getElem?_eq_some_iff.1 hi
  obtain ⟨h2, e2⟩ := List.getElem?_eq_some_iff.1 hj
  have := List.pairwise_iff_getElem.1 h i j h1 h2 hij
  rw [e1, e2] at this
  exact this
theorem cut_at {l : List It} {j : Nat} {x : It} (h : l[j]? = some x) : l = l.take j ++ x :: l.drop (j + 1) ∧ (l.take j).length = j := by
  obtain ⟨h1, h2⟩ := List.getElem?_eq_some_iff.1 h
  exact ⟨by rw [← h2, ← List.drop_eq_getElem_cons, List.take_append_drop], by rw [List.length_take]; omega⟩
theorem next_from {l : List It} (hs : Srt l) {j : Nat} {x : It} (h : l[j]? = some x) : l.find? (frP x.1 true) = l[j + 1]? := by
  obtain ⟨e, hl⟩ := cut_at h
  have hs' := hs
  rw [e] at hs'
  obtain ⟨h1, h2⟩ := Srt.about_mid (k := x.1) (u := x.2) hs'
  have h3 := from_leaf (P := frP x.1 true) (A := l.take j ++ [x]) (B := l.drop (j + 1)) (fun y hy => by
    rcases List.mem_append.1 hy with hy | hy
    · exact frP_lo (h1 y hy)
    · rw [List.mem_singleton.1 hy]; simp [frP, ltb_irrefl]) (fun y hy => frP_hi (h2 y hy))
  rw [List.append_assoc, List.singleton_append, ← e] at h3
  rw [h3, List.head?_drop]
theorem next_to {l : List It} (hs : Srt l) {j : Nat} {x : It} (h : l[j]? = some x) : lastL (toP x.1 true) l = if j = 0 then none else l[j - 1]? := by
  obtain ⟨e, hl⟩ := cut_at h
  have hs' := hs
  rw [e] at hs'
  obtain ⟨h1, h2⟩ := Srt.about_mid (k := x.1) (u := x.2) hs'
  have h3 := to_leaf (P := toP x.1 true) (A := l.take j) (B := x :: l.drop (j + 1)) (fun y hy => toP_lo (h1 y hy)) (fun y hy => by
    rcases List.mem_cons.1 hy with rfl | hy
    · simp [toP, ltb_irrefl]
    · exact toP_hi (h2 y hy))
  rw [← e] at h3
  rw [h3, List.getLast?_eq_getElem?, hl]
  split
  · next z => subst z; simp
  · rw [List.getElem?_take, if_pos (by omega)]
/-- A tree that the law works on, beside what was there. -/
structure On (W w : World) (p : Nat) (l : List It) : Prop where
  ex : ∃ M F, Works W w M ∧ TreeAt w M p l F
  lo : W.heap.size ≤ p
theorem On.on {W w w' : World} {p : Nat} {l : List It} (h : On W w p l) (hb : Below w.heap.size w w') : On W w' p l := by
  obtain ⟨M, F, h1, h2⟩ := h.ex
  exact ⟨⟨M, F, h1.on hb, h2.on hb⟩, h.lo⟩
theorem On.below {W w : World} {p : Nat} {l : List It} (h : On W w p l) : Below W.heap.size W w := by
  obtain ⟨M, F, h1, h2⟩ := h.ex
  exact h1.below
theorem On.srt {W w : World} {p : Nat} {l : List It} (h : On W w p l) : Srt l := by
  obtain ⟨M, F, h1, h2⟩ := h.ex
  exact h2.srt
theorem on_new (W : World) : Calls Try.prog 7 #[] W fun e w1 => ∃ p, e = .returned (.pointer (some ⟨p, 0, none⟩)) ∧ Hid (On W w1 p []) := (new_ W).mono fun e w1 ⟨e1, e2⟩ => by
  subst e2
  exact ⟨_, e1, ⟨_, _, (Works.start W).on (below_alloc W _), (new_tree (empty_store W)).2⟩, Nat.le_refl _⟩
theorem on_put {W w : World} {p : Nat} {l : List It} (h : On W w p l) (hl : l.length ≤ 1000000) (k v : ByteArray) : Calls Try.prog 8 #[.pointer (some ⟨p, 0, none⟩), .string k, .string v] w fun e w' => e = .returned (.tuple #[.string ((get k l).getD ⟨#[]⟩), .bool (get k l).isSome]) ∧ On W w' p (ins k v l) := by
  obtain ⟨M, F, h1, h2⟩ := h.ex
  exact (tput_ h1.st h2 hl k v).mono fun e w' ⟨e1, M', F', hk, ht⟩ => ⟨e1, ⟨M', F', h1.kept h.lo hk, ht⟩, h.lo⟩
theorem ins_le {l : List It} (h : Srt l) (k v : ByteArray) : (ins k v l).length ≤ l.length + 1 := by
  rw [ins_len h]; split <;> omega
set_option maxRecDepth 100000 in
set_option maxHeartbeats 2000000 in
theorem law_near (a : Option Addr) (n c : Nat) (l : List ByteArray) (W : World) (hn : n = l.length) (hin : Tx W a l) :
    Calls Try.prog 6 #[.slice a n c] W fun e W' => e = .returned (.bool true) ∧ Below W.heap.size W W' := by
  have HN := Lib.hid (on_new W)
  have HSure : Hid (∀ V, Calls Try.prog 17 #[] V fun e w' => e = .returned (.bool true) ∧ Hid (Below V.heap.size V w')) := fun V => sure_ V
  by_cases h300 : 300 < n
  · have hgt : (300 : Int) < n := by omega
    clear hin hn h300
    go_enter Try.func6, Try.ntmps6
    go_wp2_with (first
      | (go_at_call 7; refine HN.out.mono ?_; rintro e w1 ⟨p, rfl, H1⟩)
      | (go_at_call 17; refine (HSure.out _).mono ?_; rintro e w2 ⟨rfl, H2⟩)
      | fail)
    go_ret
    exact ⟨rfl, below_step H1.out.below H2.out⟩
  · have hgt : ¬ (300 : Int) < n := by omega
    have HIn : Hid (∀ V, Below W.heap.size W V → ∀ i, i < n → ∃ x b o, a = some ⟨b, o, none⟩ ∧ V.cell? ⟨b, o + i, none⟩ = some (.string x)) := fun V hV i hi => by
      obtain ⟨x, hx⟩ := getElem?_of_lt (show i < l.length by omega)
      obtain ⟨b, o, e, _, h2⟩ := hin.on hV i x hx
      exact ⟨x, b, o, e, h2⟩
    clear hin hn
    go_enter Try.func6, Try.ntmps6
    go_wp2_with (first
      | (go_at_call 7; refine HN.out.mono ?_; rintro e w1 ⟨p, rfl, H1⟩)
      | fail)
    go_loopg [4] n (fun kx s4 wr => ∃ i : Nat, s4 = .int .i64 i ∧ i ≤ n ∧ n - i ≤ kx ∧ Hid (∃ lt, On W wr p lt ∧ lt.length ≤ i))
    case atStart => exact ⟨0, rfl, Nat.zero_le _, by omega, ⟨[], H1.out, Nat.le_refl _⟩⟩
    case round =>
      clear H1
      obtain ⟨i, rfl, hi, hk, HO⟩ := hrel
      by_cases hlt : i < n
      · obtain ⟨lt, ho, hll⟩ := HO.out
        obtain ⟨x, b, o, rfl, h1⟩ := HIn.out wr ho.below i hlt
        have HP := Lib.hid (on_put ho (by omega) x ⟨#[]⟩)
        have HLe : Hid ((ins x ⟨#[]⟩ lt).length ≤ i + 1) := Nat.le_trans (ins_le ho.srt _ _) (by omega)
        have hw1 := wraps_i64 ((i : Int) + 1) (by omega) (by omega)
        clear ho hll HIn HO
        go_wp2_with (first
          | (go_at_call 8; refine HP.out.mono ?_; rintro e w2 ⟨rfl, h2⟩; have H2 := Lib.hid h2; clear h2)
          | fail)
        go_roundg (n - (i + 1))
        case measure => omega
        case rel => exact ⟨i + 1, by rw [show (i : Int) + 1 = ((i + 1 : Nat) : Int) by omega], by omega, Nat.le_refl _, ⟨_, H2.out, HLe.out⟩⟩
      · obtain ⟨lt, ho, hll⟩ := HO.out
        have hsr := ho.srt
        have HK : Hid (Calls Try.prog 16 #[.pointer (some ⟨p, 0, none⟩)] wr fun e w2 => ∃ a2 c2, e = .returned (.slice a2 lt.length c2) ∧ Hid (On W w2 p lt ∧ Tx w2 a2 (lt.map (·.1)))) := by
          obtain ⟨M, F, g1, g2⟩ := ho.ex
          refine (tkeys_ g1.st g2 (by omega)).mono fun e w2 ⟨a2, n2, c2, e1, hr, hb, _⟩ => ?_
          obtain ⟨e2, e3, _⟩ := hr.tx
          simp only [List.length_map] at e2
          subst e2
          exact ⟨a2, c2, e1, ho.on hb, e3⟩
        have HFi : Hid (∀ V, On W V p lt → Calls Try.prog 14 #[.pointer (some ⟨p, 0, none⟩)] V fun e w2 => ∃ t1 t2 t3, e = .returned (.tuple #[.string t1, .string t2, .bool t3]) ∧ Hid (tellV lt[0]? = .tuple #[.string t1, .string t2, .bool t3]) ∧ Hid (Below V.heap.size V w2)) := fun V hV => by
          obtain ⟨M, F, g1, g2⟩ := hV.ex
          refine (tfirst_ g1.st g2).mono fun e w2 ⟨e1, e2⟩ => ?_
          rw [List.head?_eq_getElem?] at e1
          cases hh : lt[0]? with
          | none => rw [hh] at e1; exact ⟨_, _, _, e1, rfl, e2⟩
          | some x => rw [hh] at e1; exact ⟨_, _, _, e1, rfl, e2⟩
        have HFr : Hid (∀ V j x, On W V p lt → lt[j]? = some x → Calls Try.prog 23 #[.pointer (some ⟨p, 0, none⟩), .string x.1, .bool true] V fun e w2 => ∃ t1 t2 t3, e = .returned (.tuple #[.string t1, .string t2, .bool t3]) ∧ Hid (tellV lt[j + 1]? = .tuple #[.string t1, .string t2, .bool t3]) ∧ Hid (Below V.heap.size V w2)) := fun V j x hV hx => by
          obtain ⟨M, F, g1, g2⟩ := hV.ex
          refine (tfrom_ g1.st g2 x.1 true).mono fun e w2 ⟨e1, e2⟩ => ?_
          rw [next_from hsr hx] at e1
          cases hh : lt[j + 1]? with
          | none => rw [hh] at e1; exact ⟨_, _, _, e1, rfl, e2⟩
          | some y => rw [hh] at e1; exact ⟨_, _, _, e1, rfl, e2⟩
        have HLa : Hid (∀ V, On W V p lt → Calls Try.prog 15 #[.pointer (some ⟨p, 0, none⟩)] V fun e w2 => ∃ t1 t2 t3, e = .returned (.tuple #[.string t1, .string t2, .bool t3]) ∧ Hid (tellV (if lt.length = 0 then none else lt[lt.length - 1]?) = .tuple #[.string t1, .string t2, .bool t3]) ∧ Hid (Below V.heap.size V w2)) := fun V hV => by
          obtain ⟨M, F, g1, g2⟩ := hV.ex
          refine (tlast_ g1.st g2).mono fun e w2 ⟨e1, e2⟩ => ?_
          have el : (if lt.length = 0 then none else lt[lt.length - 1]?) = lt.getLast? := by
            rw [List.getLast?_eq_getElem?]
            split
            · next z => rw [List.eq_nil_of_length_eq_zero z]; rfl
            · rfl
          rw [el]
          cases hh : lt.getLast? with
          | none => rw [hh] at e1; exact ⟨_, _, _, e1, rfl, e2⟩
          | some y => rw [hh] at e1; exact ⟨_, _, _, e1, rfl, e2⟩
        have HTo : Hid (∀ V j x, On W V p lt → lt[j]? = some x → Calls Try.prog 24 #[.pointer (some ⟨p, 0, none⟩), .string x.1, .bool true] V fun e w2 => ∃ t1 t2 t3, e = .returned (.tuple #[.string t1, .string t2, .bool t3]) ∧ Hid (tellV (if j = 0 then none else lt[j - 1]?) = .tuple #[.string t1, .string t2, .bool t3]) ∧ Hid (Below V.heap.size V w2)) := fun V j x hV hx => by
          obtain ⟨M, F, g1, g2⟩ := hV.ex
          refine (tto_ g1.st g2 x.1 true).mono fun e w2 ⟨e1, e2⟩ => ?_
          rw [next_to hsr hx] at e1
          cases hh : (if j = 0 then none else lt[j - 1]?) with
          | none => rw [hh] at e1; exact ⟨_, _, _, e1, rfl, e2⟩
          | some y => rw [hh] at e1; exact ⟨_, _, _, e1, rfl, e2⟩
        have HG : Hid (∀ j, j < lt.length → ∃ x, lt[j]? = some x) := fun j hj => getElem?_of_lt hj
        have HX : Hid (∀ j, lt.length ≤ j → lt[j]? = none) := fun j hj => List.getElem?_eq_none hj
        have HTx : Hid (∀ V a2, Tx V a2 (lt.map (·.1)) → ∀ j x, lt[j]? = some x → ∃ b o, a2 = some ⟨b, o, none⟩ ∧ V.cell? ⟨b, o + j, none⟩ = some (.string x.1)) := fun V a2 hV j x hj => by
          obtain ⟨b, o, e, _, h2⟩ := hV j x.1 (by simp [hj])
          exact ⟨b, o, e, h2⟩
        have hll' : lt.length ≤ 300 := by omega
        clear ho hsr HIn HO hll hk hi
        generalize hnl : lt.length = nl at *
        clear hnl
        go_wp2_with (first
          | (go_at_call 16; refine HK.out.mono ?_; rintro e w2 ⟨a2, c2, rfl, H2⟩)
          | (go_at_call 14; refine (HFi.out _ H2.out.1).mono ?_; rintro e w3 ⟨t1, t2, t3, rfl, HV, H3⟩)
          | fail)
        have HS3 : Hid (On W w3 p lt ∧ Tx w3 a2 (lt.map (·.1))) := ⟨H2.out.1.on H3.out, H2.out.2.on H3.out⟩
        clear HK HFi H2 H3
        go_loopg [6, 7, 9] nl (fun kx s6 s7 s9 wr => ∃ (j : Nat) (u1 u2 : ByteArray) (u3 : Bool), s6 = .int .i64 j ∧ s7 = .string u1 ∧ s9 = .bool u3 ∧ j ≤ nl ∧ nl - j ≤ kx ∧ Hid (tellV lt[j]? = .tuple #[.string u1, .string u2, .bool u3]) ∧ Hid (On W wr p lt ∧ Tx wr a2 (lt.map (·.1))))
        case atStart => exact ⟨0, t1, t2, t3, rfl, rfl, rfl, Nat.zero_le _, by omega, HV, HS3⟩
        case round =>
          clear HV HS3
          obtain ⟨j, u1, u2, u3, rfl, rfl, rfl, hj, hk, HV, HS3⟩ := hrel
          by_cases hlt2 : j < nl
          · obtain ⟨x, hx⟩ := HG.out j hlt2
            have hv := HV.out
            rw [hx] at hv
            simp only [tellV, Value.tuple.injEq, Array.mk.injEq, List.cons.injEq, Value.string.injEq, Value.bool.injEq, and_true] at hv
            obtain ⟨rfl, rfl, rfl⟩ := hv
            obtain ⟨b, o, rfl, h1⟩ := HTx.out _ _ HS3.out.2 j x hx
            have HF2 := Lib.hid (HFr.out _ j x HS3.out.1 hx)
            have hw1 := wraps_i64 ((j : Int) + 1) (by omega) (by omega)
            have h400 : (j : Int) < 400 := by omega
            have hge : ¬ ((nl : Int) ≤ (j : Int)) := by omega
            clear hx HTx HG HX HV HLa HTo HFr
            obtain ⟨x1, x2⟩ := x
            simp only at h1 HF2
            go_wp2_with (first
              | (go_at_call 23; refine HF2.out.mono ?_; rintro e w4 ⟨t4, t5, t6, rfl, HV4, H4⟩)
              | fail)
            go_roundg (nl - (j + 1))
            case measure => omega
            case rel => exact ⟨j + 1, t4, t5, t6, by rw [show (j : Int) + 1 = ((j + 1 : Nat) : Int) by omega], rfl, rfl, by omega, Nat.le_refl _, HV4, ⟨HS3.out.1.on H4.out, HS3.out.2.on H4.out⟩⟩
          · obtain rfl : j = nl := by omega
            have hv := HV.out
            rw [HX.out j (Nat.le_refl _)] at hv
            simp only [tellV, Value.tuple.injEq, Array.mk.injEq, List.cons.injEq, Value.string.injEq, Value.bool.injEq, and_true] at hv
            obtain ⟨rfl, rfl, rfl⟩ := hv
            have HLb := Lib.hid (HLa.out _ HS3.out.1)
            clear HV HFr HX HLa
            go_wp2_with (first
              | (go_at_call 15; refine HLb.out.mono ?_; rintro e w4 ⟨t4, t5, t6, rfl, HV4, H4⟩)
              | fail)
            have HS4 : Hid (On W w4 p lt ∧ Tx w4 a2 (lt.map (·.1))) := ⟨HS3.out.1.on H4.out, HS3.out.2.on H4.out⟩
            clear HS3 H4 HLb
            go_loopg [6, 10, 12] j (fun kx s6 s7 s9 wr => ∃ (i : Nat) (u1 u2 : ByteArray) (u3 : Bool), s6 = .int .i64 i ∧ s7 = .string u1 ∧ s9 = .bool u3 ∧ i ≤ j ∧ i ≤ kx ∧ Hid (tellV (if i = 0 then none else lt[i - 1]?) = .tuple #[.string u1, .string u2, .bool u3]) ∧ Hid (On W wr p lt ∧ Tx wr a2 (lt.map (·.1))))
            case atStart => exact ⟨j, t4, t5, t6, rfl, rfl, rfl, Nat.le_refl _, Nat.le_refl _, HV4, HS4⟩
            case round =>
              clear HV4 HS4
              obtain ⟨i, u1, u2, u3, rfl, rfl, rfl, hi, hk, HV, HS3⟩ := hrel
              by_cases hi0 : i = 0
              · subst hi0
                have hv := HV.out
                simp only [if_true, tellV, Value.tuple.injEq, Array.mk.injEq, List.cons.injEq, Value.string.injEq, Value.bool.injEq, and_true] at hv
                obtain ⟨rfl, rfl, rfl⟩ := hv
                clear HV HTo HTx HG
                go_wp2_with (first
                  | (go_at_call 17; refine (HSure.out _).mono ?_; rintro e w5 ⟨rfl, H5⟩)
                  | fail)
                go_ret
                exact ⟨rfl, below_step HS3.out.1.below H5.out⟩
              · obtain ⟨x, hx⟩ := HG.out (i - 1) (by omega)
                have hv := HV.out
                rw [if_neg hi0, hx] at hv
                simp only [tellV, Value.tuple.injEq, Array.mk.injEq, List.cons.injEq, Value.string.injEq, Value.bool.injEq, and_true] at hv
                obtain ⟨rfl, rfl, rfl⟩ := hv
                obtain ⟨b, o, rfl, h1⟩ := HTx.out _ _ HS3.out.2 (i - 1) x hx
                have HF2 := Lib.hid (HTo.out _ (i - 1) x HS3.out.1 hx)
                obtain ⟨i2, hi2⟩ : ∃ i2, i = i2 + 1 := ⟨i - 1, by omega⟩
                subst hi2
                rw [Nat.add_sub_cancel] at h1 HF2
                have hw1 := wraps_i64 (i2 : Int) (by omega) (by omega)
                have h0 : (0 : Int) < (i2 : Int) + 1 := by omega
                have hlt3 : (i2 : Int) < (j : Int) := by omega
                clear hx HTx HG HV HTo hi0
                obtain ⟨x1, x2⟩ := x
                simp only at h1 HF2
                go_wp2_with (first
                  | (go_at_call 24; refine HF2.out.mono ?_; rintro e w5 ⟨t7, t8, t9, rfl, HV5, H5⟩)
                  | fail)
                go_roundg i2
                case measure => omega
                case rel => exact ⟨i2, t7, t8, t9, rfl, rfl, rfl, by omega, Nat.le_refl _, HV5, ⟨HS3.out.1.on H5.out, HS3.out.2.on H5.out⟩⟩
end Go.Proofs.Ytlpkpookheafpaa
