/- The law's grown: a tree of keys, and the same as a list. -/
import Derived.Test.YteeojhmdefhlmaaCuWork
import Derived.Test.YteeojhmdefhlmaaCuPh
namespace Go.Proofs.Yteeojhmdefhlmaa
open Go.RowKit Go.Sort

/-- A tree and the document's list beside each other. -/
structure Gr (W V : World) (p : Nat) (v : Value) (l : List It) : Prop where
  ex : ∃ M F, Works W V M ∧ TreeAt V M p l F
  lo : W.heap.size ≤ p
  row : RowR V 0 v l
theorem Gr.on {W V V' : World} {p : Nat} {v : Value} {l : List It} (h : Gr W V p v l) (hb : Below V.heap.size V V') : Gr W V' p v l := by
  obtain ⟨M, F, h1, h2⟩ := h.ex
  exact ⟨⟨M, F, h1.on hb, h2.on hb⟩, h.lo, row_on h.row hb⟩
theorem Gr.below {W V : World} {p : Nat} {v : Value} {l : List It} (h : Gr W V p v l) : Below W.heap.size W V := by
  obtain ⟨M, F, h1, h2⟩ := h.ex
  exact h1.below
theorem ins_le {l : List It} (h : Srt l) (k v : ByteArray) : (ins k v l).length ≤ l.length + 1 := by
  rw [ins_len h]; split <;> omega
theorem Gr.srt {W V : World} {p : Nat} {v : Value} {l : List It} (h : Gr W V p v l) : Srt l := by
  obtain ⟨M, F, h1, h2⟩ := h.ex
  exact h2.srt
/-- Between the two puts: the tree is ahead. -/
structure Gr1 (W V : World) (p : Nat) (v : Value) (l : List It) (k x : ByteArray) : Prop where
  ex : ∃ M F, Works W V M ∧ TreeAt V M p (ins k x l) F
  lo : W.heap.size ≤ p
  row : RowR V 0 v l
  srt : Srt l
theorem Gr.put {W V : World} {p : Nat} {v : Value} {l : List It} (h : Gr W V p v l) (hl : l.length ≤ 1000000) (k x : ByteArray) :
    Calls Try.prog 35 #[.pointer (some ⟨p, 0, none⟩), .string k, .string x] V fun e V' => e = .returned (.tuple #[.string ((get k l).getD ⟨#[]⟩), .bool (get k l).isSome]) ∧ Hid (Gr1 W V' p v l k x) := by
  obtain ⟨M, F, h1, h2⟩ := h.ex
  refine (tput_ h1.st h2 hl k x).mono fun e V' ⟨e1, M', F', hk, ht⟩ => ⟨e1, ⟨⟨M', F', h1.kept h.lo hk, ht⟩, h.lo, h.row.alien (hk.alien h1.st h2), h2.srt⟩⟩
theorem Gr1.on {W V V' : World} {p : Nat} {v : Value} {l : List It} {k x : ByteArray} (h : Gr1 W V p v l k x) (hb : Below V.heap.size V V') : Gr1 W V' p v l k x := by
  obtain ⟨M, F, h1, h2⟩ := h.ex
  exact ⟨⟨M, F, h1.on hb, h2.on hb⟩, h.lo, row_on h.row hb, h.srt⟩
theorem Gr1.below {W V : World} {p : Nat} {v : Value} {l : List It} {k x : ByteArray} (h : Gr1 W V p v l k x) : Below W.heap.size W V := by
  obtain ⟨M, F, h1, h2⟩ := h.ex
  exact h1.below
theorem Gr1.put {W V : World} {p : Nat} {v : Value} {l : List It} {k x : ByteArray} (h : Gr1 W V p v l k x) (hl : l.length ≤ 1000) :
    Calls Try.prog 36 #[v, .string k, .string x] V fun e V' => ∃ a m c, e = .returned (.tuple #[.slice a m c, .string ((get k l).getD ⟨#[]⟩), .bool (get k l).isSome]) ∧ Hid (Gr W V' p (.slice a m c) (ins k x l)) := by
  refine (rput_ h.row h.srt hl k x).mono fun e V' ⟨a, m, c, e1, hr, hb⟩ => ⟨a, m, c, e1, ?_⟩
  obtain ⟨M, F, h1, h2⟩ := h.ex
  exact ⟨⟨M, F, h1.on hb, h2.on hb⟩, h.lo, hr⟩
theorem gr_new (w : World) : Calls Try.prog 34 #[] w fun e V => ∃ p, e = .returned (.pointer (some ⟨p, 0, none⟩)) ∧ Hid (Gr w V p (.slice none 0 0) []) := (new_ w).mono fun e w1 ⟨e1, e2⟩ => by
  have h := new_tree (empty_store w)
  refine ⟨_, e1, ?_⟩
  rw [e2]
  exact ⟨⟨_, _, (Works.start w).on (below_alloc w _), h.2⟩, Nat.le_refl _, World.ownsRow_nil _ _ _ _⟩
theorem str_one : (⟨#[118]⟩ : ByteArray).size = 1 := rfl
set_option maxRecDepth 100000 in
set_option maxHeartbeats 2000000 in
theorem grown_ {w : World} {a : Option Addr} {c : Nat} {ks : List ByteArray} (hx : Tx w a ks) (hz : ∀ x ∈ ks, x.size ≤ 1000000000000000000) :
    Calls Try.prog 19 #[.slice a ks.length c] w fun e V => ∃ p v, e = .returned (.tuple #[.pointer (some ⟨p, 0, none⟩), v]) ∧ ∃ l, Hid (Gr w V p v l ∧ l.length ≤ 200) := by
  have HX : Hid (∀ i x, ks[i]? = some x → ∃ b o, a = some ⟨b, o, none⟩ ∧ ∀ V, Below w.heap.size w V → V.cell? ⟨b, o + i, none⟩ = some (.string x)) := fun i x hi => by
    obtain ⟨b, o, e, h1, h2⟩ := hx i x hi
    exact ⟨b, o, e, fun V hV => (hV.cell (p := ⟨b, o + i, none⟩) h1).trans h2⟩
  have HZ : Hid (∀ (i : Nat) (x : ByteArray), ks[i]? = some x → x.size ≤ 1000000000000000000) := fun i x hi => hz x (List.mem_of_getElem? hi)
  have HN : Hid (∀ i : Nat, i < ks.length → ∃ x, ks[i]? = some x) := fun i hi => ⟨_, List.getElem?_eq_getElem hi⟩
  have HNew := Lib.hid (gr_new w)
  clear hx hz
  generalize ks.length = n at *
  go_enter Try.func19, Try.ntmps19
  go_wp2_with (first | (go_at_call 34; refine HNew.out.mono ?_; rintro e V0 ⟨p, rfl, HG0⟩; clear HNew) | fail)
  go_loopw [5, 6] (fun v5 jv wr => ∃ (i : Nat) (l : List It), i ≤ n ∧ i ≤ 200 ∧ jv = .int .i64 i ∧ Hid (Gr w wr p v5 l ∧ l.length ≤ i)) (fun _ jv _ => (200 - intOf jv).toNat)
  case atStart => exact ⟨0, [], Nat.zero_le _, by omega, rfl, HG0.out, Nat.le_refl _⟩
  case round =>
    clear HG0
    obtain ⟨i, l, hin, hi2, rfl, HG⟩ := hrel
    by_cases h1 : i < n
    · by_cases h2 : i < 200
      · obtain ⟨x, hx⟩ := HN.out i h1
        obtain ⟨kb, ko, rfl, hcell⟩ := HX.out i x hx
        have HC := Lib.hid hcell
        have hsz : x.size ≤ 9223372036854775806 := by have := HZ.out i x hx; omega
        have HPt := Lib.hid ((HG.out.1.on (below_drew wr)).put (by have := HG.out.2; omega) x (x ++ ⟨#[118]⟩))
        have HB0 : Hid (Below w.heap.size w wr.drew) := below_step HG.out.1.below (below_drew wr)
        have FC : Hid (∀ V, Below w.heap.size w V → V.cell? ⟨kb, ko + i, none⟩ = some (.string x)) := HC
        have hz1 := str_one
        clear hx hcell HC
        obtain ⟨gs, hgs⟩ : ∃ gs, gs = (get x l).getD ⟨#[]⟩ := ⟨_, rfl⟩
        obtain ⟨gb, hgb⟩ : ∃ gb, gb = (get x l).isSome := ⟨_, rfl⟩
        rw [← hgs, ← hgb] at HPt
        have HGS := Lib.hid (And.intro hgs hgb)
        clear hgs hgb
        go_wp2_with fail
        have hlt : (i : Int) < (n : Int) := by omega
        refine wp_region_noPanic ?_
        refine region_ph (A := fun _ => True) (e1 := 10) (B := (fun V => Below w.heap.size w V)) (e2 := 10) (C := (fun _ => True)) (by kernel_rfl) (⟨trivial, fun _ => HB0.out, fun _ => trivial⟩) (fun hSt => ?_)
        refine take_ph 0 (.pointer (some ⟨p, 0, none⟩)) [] rfl (by kernel_rfl) (fun _ _ _ h => h) (Or.inl ⟨by rfl, ?_⟩) hSt (fun hSn => ?_)
        · intro V _; go_simp
        clear hSt; rename Ph _ _ _ _ _ _ _ => hSt
        simp only [Act.put, List.setIfInBounds_toArray, List.set_cons_zero, List.set_cons_succ]
        refine take_ph 1 (.slice (some ⟨kb, ko, none⟩) n c) [] rfl (by kernel_rfl) (fun _ _ _ h => h) (Or.inl ⟨by rfl, ?_⟩) hSt (fun hSn => ?_)
        · intro V _; go_simp
        clear hSt; rename Ph _ _ _ _ _ _ _ => hSt
        simp only [Act.put, List.setIfInBounds_toArray, List.set_cons_zero, List.set_cons_succ]
        refine take_ph 2 (.int .i64 i) [] rfl (by kernel_rfl) (fun _ _ _ h => h) (Or.inl ⟨by rfl, ?_⟩) hSt (fun hSn => ?_)
        · intro V _; go_simp
        clear hSt; rename Ph _ _ _ _ _ _ _ => hSt
        simp only [Act.put, List.setIfInBounds_toArray, List.set_cons_zero, List.set_cons_succ]
        refine take_ph 3 (.pointer (some ⟨kb, ko + i, none⟩)) [] rfl (by kernel_rfl) (fun _ _ _ h => h) (Or.inl ⟨by rfl, ?_⟩) hSt (fun hSn => ?_)
        · intro V _; go_simp
        clear hSt; rename Ph _ _ _ _ _ _ _ => hSt
        simp only [Act.put, List.setIfInBounds_toArray, List.set_cons_zero, List.set_cons_succ]
        refine take_ph 4 (.string x) [10] rfl (by kernel_rfl) (fun _ _ _ h => h) (Or.inl ⟨by rfl, ?_⟩) hSt (fun hSn => ?_)
        · rintro V ⟨_, hB, hC⟩; have hh := hB (by decide); have e0 := FC.out V hh; clear hB hC; go_simp
        clear hSt; rename Ph _ _ _ _ _ _ _ => hSt
        simp only [Act.put, List.setIfInBounds_toArray, List.set_cons_zero, List.set_cons_succ]
        refine take_ph 5 (.slice (some ⟨kb, ko, none⟩) n c) [] rfl (by kernel_rfl) (fun _ _ _ h => h) (Or.inl ⟨by rfl, ?_⟩) hSt (fun hSn => ?_)
        · intro V _; go_simp
        clear hSt; rename Ph _ _ _ _ _ _ _ => hSt
        simp only [Act.put, List.setIfInBounds_toArray, List.set_cons_zero, List.set_cons_succ]
        refine take_ph 6 (.int .i64 i) [] rfl (by kernel_rfl) (fun _ _ _ h => h) (Or.inl ⟨by rfl, ?_⟩) hSt (fun hSn => ?_)
        · intro V _; go_simp
        clear hSt; rename Ph _ _ _ _ _ _ _ => hSt
        simp only [Act.put, List.setIfInBounds_toArray, List.set_cons_zero, List.set_cons_succ]
        refine take_ph 7 (.pointer (some ⟨kb, ko + i, none⟩)) [] rfl (by kernel_rfl) (fun _ _ _ h => h) (Or.inl ⟨by rfl, ?_⟩) hSt (fun hSn => ?_)
        · intro V _; go_simp
        clear hSt; rename Ph _ _ _ _ _ _ _ => hSt
        simp only [Act.put, List.setIfInBounds_toArray, List.set_cons_zero, List.set_cons_succ]
        refine take_ph 8 (.string x) [9, 10] rfl (by kernel_rfl) (fun _ _ _ h => h) (Or.inl ⟨by rfl, ?_⟩) hSt (fun hSn => ?_)
        · rintro V ⟨_, hB, hC⟩; have hh := hB (by decide); have e0 := FC.out V hh; clear hB hC; go_simp
        clear hSt; rename Ph _ _ _ _ _ _ _ => hSt
        simp only [Act.put, List.setIfInBounds_toArray, List.set_cons_zero, List.set_cons_succ]
        refine take_ph 9 (.string (x ++ ⟨#[118]⟩)) [] rfl (by kernel_rfl) (fun _ _ _ h => h) (Or.inl ⟨by rfl, ?_⟩) hSt (fun hSn => ?_)
        · intro V _; go_simp
        clear hSt; rename Ph _ _ _ _ _ _ _ => hSt
        simp only [Act.put, List.setIfInBounds_toArray, List.set_cons_zero, List.set_cons_succ]
        refine ready_call_ph 10 rfl (by kernel_rfl) (fun KK hK => ?_)
        go_simp
        go_wp2_with (first | (go_at_call 35; refine HPt.out.mono ?_; rintro e V1 ⟨rfl, HG1⟩))
        refine hK.out _ _ ?_ (fun hSn => ?_)
        · exact ⟨trivial, fun h => absurd (show true = false from h) (by decide), fun _ => trivial⟩
        clear hK KK hSt; rename Ph _ _ _ _ _ _ _ => hSt
        refine done_ph (by kernel_rfl) ?_ _
        clear hSt
        refine NoPanic.normal ?_
        clear HPt
        have HP2 := Lib.hid ((HG1.out.on (below_drew V1)).put (by have := HG.out.2; omega))
        rw [← HGS.out.1, ← HGS.out.2] at HP2
        have HB1 : Hid (Below w.heap.size w V1.drew) := below_step HG1.out.below (below_drew V1)
        go_wp2_with fail
        refine wp_region_noPanic ?_
        refine region_ph (A := fun _ => True) (e1 := 10) (B := (fun V => Below w.heap.size w V)) (e2 := 10) (C := (fun _ => True)) (by kernel_rfl) (⟨trivial, fun _ => HB1.out, fun _ => trivial⟩) (fun hSt => ?_)
        refine take_ph 0 (u5) [] rfl (by kernel_rfl) (fun _ _ _ h => h) (Or.inl ⟨by rfl, ?_⟩) hSt (fun hSn => ?_)
        · intro V _; go_simp
        clear hSt; rename Ph _ _ _ _ _ _ _ => hSt
        simp only [Act.put, List.setIfInBounds_toArray, List.set_cons_zero, List.set_cons_succ]
        refine take_ph 1 (.slice (some ⟨kb, ko, none⟩) n c) [] rfl (by kernel_rfl) (fun _ _ _ h => h) (Or.inl ⟨by rfl, ?_⟩) hSt (fun hSn => ?_)
        · intro V _; go_simp
        clear hSt; rename Ph _ _ _ _ _ _ _ => hSt
        simp only [Act.put, List.setIfInBounds_toArray, List.set_cons_zero, List.set_cons_succ]
        refine take_ph 2 (.int .i64 i) [] rfl (by kernel_rfl) (fun _ _ _ h => h) (Or.inl ⟨by rfl, ?_⟩) hSt (fun hSn => ?_)
        · intro V _; go_simp
        clear hSt; rename Ph _ _ _ _ _ _ _ => hSt
        simp only [Act.put, List.setIfInBounds_toArray, List.set_cons_zero, List.set_cons_succ]
        refine take_ph 3 (.pointer (some ⟨kb, ko + i, none⟩)) [] rfl (by kernel_rfl) (fun _ _ _ h => h) (Or.inl ⟨by rfl, ?_⟩) hSt (fun hSn => ?_)
        · intro V _; go_simp
        clear hSt; rename Ph _ _ _ _ _ _ _ => hSt
        simp only [Act.put, List.setIfInBounds_toArray, List.set_cons_zero, List.set_cons_succ]
        refine take_ph 4 (.string x) [10] rfl (by kernel_rfl) (fun _ _ _ h => h) (Or.inl ⟨by rfl, ?_⟩) hSt (fun hSn => ?_)
        · rintro V ⟨_, hB, hC⟩; have hh := hB (by decide); have e0 := FC.out V hh; clear hB hC; go_simp
        clear hSt; rename Ph _ _ _ _ _ _ _ => hSt
        simp only [Act.put, List.setIfInBounds_toArray, List.set_cons_zero, List.set_cons_succ]
        refine take_ph 5 (.slice (some ⟨kb, ko, none⟩) n c) [] rfl (by kernel_rfl) (fun _ _ _ h => h) (Or.inl ⟨by rfl, ?_⟩) hSt (fun hSn => ?_)
        · intro V _; go_simp
        clear hSt; rename Ph _ _ _ _ _ _ _ => hSt
        simp only [Act.put, List.setIfInBounds_toArray, List.set_cons_zero, List.set_cons_succ]
        refine take_ph 6 (.int .i64 i) [] rfl (by kernel_rfl) (fun _ _ _ h => h) (Or.inl ⟨by rfl, ?_⟩) hSt (fun hSn => ?_)
        · intro V _; go_simp
        clear hSt; rename Ph _ _ _ _ _ _ _ => hSt
        simp only [Act.put, List.setIfInBounds_toArray, List.set_cons_zero, List.set_cons_succ]
        refine take_ph 7 (.pointer (some ⟨kb, ko + i, none⟩)) [] rfl (by kernel_rfl) (fun _ _ _ h => h) (Or.inl ⟨by rfl, ?_⟩) hSt (fun hSn => ?_)
        · intro V _; go_simp
        clear hSt; rename Ph _ _ _ _ _ _ _ => hSt
        simp only [Act.put, List.setIfInBounds_toArray, List.set_cons_zero, List.set_cons_succ]
        refine take_ph 8 (.string x) [9, 10] rfl (by kernel_rfl) (fun _ _ _ h => h) (Or.inl ⟨by rfl, ?_⟩) hSt (fun hSn => ?_)
        · rintro V ⟨_, hB, hC⟩; have hh := hB (by decide); have e0 := FC.out V hh; clear hB hC; go_simp
        clear hSt; rename Ph _ _ _ _ _ _ _ => hSt
        simp only [Act.put, List.setIfInBounds_toArray, List.set_cons_zero, List.set_cons_succ]
        refine take_ph 9 (.string (x ++ ⟨#[118]⟩)) [] rfl (by kernel_rfl) (fun _ _ _ h => h) (Or.inl ⟨by rfl, ?_⟩) hSt (fun hSn => ?_)
        · intro V _; go_simp
        clear hSt; rename Ph _ _ _ _ _ _ _ => hSt
        simp only [Act.put, List.setIfInBounds_toArray, List.set_cons_zero, List.set_cons_succ]
        refine ready_call_ph 10 rfl (by kernel_rfl) (fun KK hK => ?_)
        go_simp
        go_wp2_with (first | (go_at_call 36; refine HP2.out.mono ?_; rintro e V2 ⟨a2, m2, c2, rfl, HG2⟩))
        refine hK.out _ _ ?_ (fun hSn => ?_)
        · exact ⟨trivial, fun h => absurd (show true = false from h) (by decide), fun _ => trivial⟩
        clear hK KK hSt; rename Ph _ _ _ _ _ _ _ => hSt
        refine take_ph 11 (.tuple #[.slice a2 m2 c2, .string gs, .bool gb]) [] rfl (by kernel_rfl) (fun _ _ _ h => h) (Or.inl ⟨by rfl, ?_⟩) hSt (fun hSn => ?_)
        · intro V _; go_simp
        clear hSt; rename Ph _ _ _ _ _ _ _ => hSt
        simp only [Act.put, List.setIfInBounds_toArray, List.set_cons_zero, List.set_cons_succ]
        refine take_ph 12 (.slice a2 m2 c2) [] rfl (by kernel_rfl) (fun _ _ _ h => h) (Or.inl ⟨by rfl, ?_⟩) hSt (fun hSn => ?_)
        · intro V _; go_simp
        clear hSt; rename Ph _ _ _ _ _ _ _ => hSt
        simp only [Act.put, List.setIfInBounds_toArray, List.set_cons_zero, List.set_cons_succ]
        refine take_ph 13 (.string gs) [] rfl (by kernel_rfl) (fun _ _ _ h => h) (Or.inl ⟨by rfl, ?_⟩) hSt (fun hSn => ?_)
        · intro V _; go_simp
        clear hSt; rename Ph _ _ _ _ _ _ _ => hSt
        simp only [Act.put, List.setIfInBounds_toArray, List.set_cons_zero, List.set_cons_succ]
        refine take_ph 14 (.bool gb) [] rfl (by kernel_rfl) (fun _ _ _ h => h) (Or.inl ⟨by rfl, ?_⟩) hSt (fun hSn => ?_)
        · intro V _; go_simp
        clear hSt; rename Ph _ _ _ _ _ _ _ => hSt
        simp only [Act.put, List.setIfInBounds_toArray, List.set_cons_zero, List.set_cons_succ]
        refine take_ph 15 (.slice a2 m2 c2) [] rfl (by kernel_rfl) (fun _ _ _ h => h) (Or.inl ⟨by rfl, ?_⟩) hSt (fun hSn => ?_)
        · intro V _; go_simp
        clear hSt; rename Ph _ _ _ _ _ _ _ => hSt
        simp only [Act.put, List.setIfInBounds_toArray, List.set_cons_zero, List.set_cons_succ]
        refine done_ph (by kernel_rfl) ?_ _
        clear hSt
        refine NoPanic.normal ?_
        clear HP2
        go_wp2_with fail
        go_roundw
        case rel => exact ⟨i + 1, _, by omega, by omega, by go_num, HG2.out, by have := ins_le HG.out.1.srt x (x ++ ⟨#[118]⟩); have := HG.out.2; omega⟩
        case measure => simp [intOf]; omega
      · have h3 : ¬ (i : Int) < 200 := by omega
        go_wp2_with fail
        go_ret2
        exact ⟨p, _, rfl, l, HG.out.1, by have := HG.out.2; omega⟩
    · have h3 : ¬ (i : Int) < (n : Int) := by omega
      go_wp2_with fail
      go_ret2
      exact ⟨p, _, rfl, l, HG.out.1, by have := HG.out.2; omega⟩
end Go.Proofs.Yteeojhmdefhlmaa
