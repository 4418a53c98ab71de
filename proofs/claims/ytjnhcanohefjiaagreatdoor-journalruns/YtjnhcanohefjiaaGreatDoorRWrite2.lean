/- The document's Write, whatever comes. -/
import Derived.Test.YtjnhcanohefjiaaGreatDoorRWrite
namespace Go.Proofs.YtjnhcanohefjiaaGreatDoor
open Go.RowKit Go.Sort Go.Maps

theorem find_one {l : List RS} {k : Pl} {i i' : Nat} {b b' : Bool} (h : FindIs l k i b) (h' : FindIs l k i' b') : i = i' ∧ b = b' := by
  have lem : ∀ {i i' : Nat} {b b' : Bool}, FindIs l k i b → FindIs l k i' b' → ¬ i < i' := by
    intro i i' b b' h h' hlt
    have hi : i < l.length := Nat.lt_of_lt_of_le hlt h'.le
    exact h.ge hi (h'.lt _ (List.mem_take_iff_getElem.2 ⟨i, by omega, rfl⟩))
  have e : i = i' := by
    have := lem h h'
    have := lem h' h
    omega
  subst e
  refine ⟨rfl, ?_⟩
  have := h.is.trans h'.is.symm
  cases b <;> cases b' <;> simp at this ⊢
theorem find_some : ∀ (l : List RS) (k : Pl), ∃ i b, FindIs l k i b
  | [], k => ⟨0, false, Nat.le_refl _, fun x hx => by simp at hx, fun h => by simp at h, by simp⟩
  | x :: r, k => by
    by_cases h : ltP x.key k
    · obtain ⟨i, b, h1, h2, h3, h4⟩ := find_some r k
      refine ⟨i + 1, b, by simpa using h1, fun y hy => ?_, fun hi => ?_, ?_⟩
      · rw [List.take_succ_cons] at hy
        rcases List.mem_cons.1 hy with rfl | hy
        · exact h
        · exact h2 y hy
      · simpa using h3 (by simpa using hi)
      · rw [h4]
        constructor
        · rintro ⟨a, b⟩; exact ⟨by simpa using a, by simpa using b⟩
        · rintro ⟨a, b⟩; exact ⟨by simpa using a, by simpa using b⟩
    · refine ⟨0, decide (x.key = k), Nat.zero_le _, fun y hy => by simp at hy, fun hi => by simpa using h, ?_⟩
      simp
theorem hasR_iff {d : Dev} {x : RD} (h : Tie d x) (k : Pl) : hasR x.r x.s k = decide (hasD d k) := by
  unfold hasR hasD; rw [h.r, h.s]
theorem wrap64_eq (n : Int) : wrap64 n = IntKind.i64.wrap n := by
  simp [IntKind.wrap, IntKind.bits, IntKind.signed, wrap64]
  split <;> omega
/-- What the document's Write hands back, whatever comes. -/
theorem rwrite_ {w : World} {a : Option Addr} {c : Nat} (x : RD) (d : Dev) (k : Pl) (xs : List Nat) (h : LstS w a c x.l) (ht : Tie d x) (hx : ∀ y ∈ xs, y < 256) (hl : x.l.length ≤ 1000) :
    Calls Tryz.prog 59 #[rdV x a c, .int .i64 k.1, .int .i64 k.2, .string (bs xs)] w fun e w' => (∃ a' c', e = .returned (.tuple #[rdV (writeR x d k xs) a' c', .int .i64 (wErr d k xs.length : Nat)]) ∧ LstS w' a' c' (writeR x d k xs).l) ∧ Below w.heap.size w w' := by
  have hhas := hasR_iff ht k
  obtain ⟨g, j⟩ := k
  have hcr := ht.cr
  by_cases h1 : hasD d (g, j)
  · rw [decide_eq_true h1] at hhas
    by_cases h2 : 64 < xs.length
    · have e1 : writeR x d (g, j) xs = x := by unfold writeR; rw [if_pos (.inr (.inl h2))]
      have e2 : wErr d (g, j) xs.length = 2 := by unfold wErr; rw [if_neg (fun e => e h1), if_pos h2]
      rw [e1, e2]
      exact (rwrite_no2 x.r x.s x.left x.crashed x.armed a x.l.length c g j (bs xs) w hhas (by rw [bs_size]; exact h2)).mono fun e w' ⟨he, hb⟩ => ⟨⟨a, c, he, h.on hb⟩, hb⟩
    · cases h3 : d.crashed
      · have hf : ∀ i b, FindIs x.l (g, j) i b → ∀ V : World, Below w.heap.size w V → Calls Tryz.prog 56 #[.agg #[.int .i64 x.r, .int .i64 x.s, .slice a x.l.length c, .bool false, .bool x.armed, .int .i64 x.left], .int .i64 g, .int .i64 j] V fun e w' => e = .returned (.tuple #[.int .i64 (i : Int), .bool b]) ∧ Below V.heap.size V w' := fun i b hi V hV =>
          (rfind_ x.r x.s x.left false x.armed a x.l.length c x.l g j V rfl ((h.on hV).1) (by omega)).mono fun e w' ⟨⟨i', b', he, hi'⟩, hb⟩ => by
            obtain ⟨rfl, rfl⟩ := find_one hi hi'
            exact ⟨he, hb⟩
        have e1 : writeR x d (g, j) xs = doneR x (g, j) (fillC xs) := by unfold writeR; rw [if_neg (fun e => by rcases e with e | e | e; exact e h1; exact h2 e; rw [h3] at e; cases e)]
        have e2 : wErr d (g, j) xs.length = if d.armed = true ∧ d.left = 0 then 60 else 0 := by unfold wErr; rw [if_neg (fun e => e h1), if_neg h2, if_neg (by rw [h3]; simp)]
        have hW : ∀ e w', WroteTo w x.r x.s x.left x.armed (putR x.l (g, j) (fillC xs)) e w' → (∃ a' c', e = .returned (.tuple #[rdV (writeR x d (g, j) xs) a' c', .int .i64 (wErr d (g, j) xs.length : Nat)]) ∧ LstS w' a' c' (writeR x d (g, j) xs).l) ∧ Below w.heap.size w w' := by
          rintro e w' ⟨⟨a', c', rfl, hls⟩, hb⟩
          refine ⟨⟨a', c', ?_, ?_⟩, hb⟩
          · rw [e1, e2]
            have hc0 : x.crashed = false := by rw [hcr, h3]
            unfold doneR rdV rdC
            cases ha : x.armed
            · have hda : d.armed = false := by rw [← ht.ar, ha]
              simp [hda, hc0, wrap64_eq]
            · have hda : d.armed = true := by rw [← ht.ar, ha]
              have hlf := ht.lf hda
              by_cases h0 : x.left = 0
              · simp [h0, hda, ← hlf]
              · simp [h0, hda, ← hlf, hc0, wrap64_eq]
          · rw [e1, show (doneR x (g, j) (fillC xs)).l = putR x.l (g, j) (fillC xs) by unfold doneR; split <;> rfl]
            exact hls
        have ev : rdV x a c = .agg #[.int .i64 x.r, .int .i64 x.s, .slice a x.l.length c, .bool false, .bool x.armed, .int .i64 x.left] := by unfold rdV rdC; rw [hcr, h3]
        rw [ev]
        obtain ⟨i, b, hi⟩ := find_some x.l (g, j)
        have hfi := hf i b hi
        obtain ⟨s1, s2, s3⟩ := h
        rcases s3 with ⟨rfl, rfl⟩ | ⟨bb, o, cs, z, rfl, _⟩
        · have hnil := secs_none s1
          rw [hnil] at hi hfi hW ⊢
          cases b
          · exact (rwrite_nil x.r x.s x.left x.armed 0 0 g j xs w hhas hx (by omega) (by omega) i hfi hi rfl rfl).mono hW
          · obtain ⟨hh, _⟩ := hi.is.1 rfl; simp at hh
        · cases b
          · exact (rwrite_not x.r x.s x.left x.armed bb o x.l.length c x.l g j xs w hhas hx (by omega) hl i hfi hi rfl s2 s1).mono hW
          · exact (rwrite_is x.r x.s x.left x.armed bb o x.l.length c x.l g j xs w hhas hx (by omega) hl i hfi hi rfl s2 s1).mono hW
      · have e1 : writeR x d (g, j) xs = x := by unfold writeR; rw [if_pos (.inr (.inr h3))]
        have e2 : wErr d (g, j) xs.length = 60 := by unfold wErr; rw [if_neg (fun e => e h1), if_neg h2, if_pos h3]
        have ev : rdV x a c = .agg #[.int .i64 x.r, .int .i64 x.s, .slice a x.l.length c, .bool true, .bool x.armed, .int .i64 x.left] := by unfold rdV rdC; rw [hcr, h3]
        rw [e1, e2, ev]
        exact (rwrite_no3 x.r x.s x.left x.armed a x.l.length c g j (bs xs) w hhas (by rw [bs_size]; omega)).mono fun e w' ⟨he, hb⟩ => ⟨⟨a, c, he.trans (by rw [ev]; rfl), h.on hb⟩, hb⟩
  · rw [decide_eq_false h1] at hhas
    have e1 : writeR x d (g, j) xs = x := by unfold writeR; rw [if_pos (.inl h1)]
    have e2 : wErr d (g, j) xs.length = 1 := by unfold wErr; rw [if_pos h1]
    rw [e1, e2]
    exact (rwrite_no1 x.r x.s x.left x.crashed x.armed a x.l.length c g j (bs xs) w hhas).mono fun e w' ⟨he, hb⟩ => ⟨⟨a, c, he, h.on hb⟩, hb⟩
/-- What the document's Read hands back. -/
theorem rreadT {w : World} {a : Option Addr} {c : Nat} (x : RD) (d : Dev) (k : Pl) (h : LstS w a c x.l) (ht : Tie d x) (hl : x.l.length ≤ 1000) :
    Calls Tryz.prog 29 #[rdV x a c, .int .i64 k.1, .int .i64 k.2] w fun e w' => e = .returned (.tuple #[.string (if rErr d k = 0 then bs (readD d k) else bs []), .int .i64 (rErr d k : Nat)]) ∧ Below w.heap.size w w' :=
  (rread_ x.r x.s x.left x.crashed x.armed a x.l.length c x.l k w rfl h.1 (by omega) ht.srt).mono fun e w' ⟨he, hb⟩ => by
    refine ⟨he.trans ?_, hb⟩
    rw [hasR_iff ht, ht.cr, tie_read ht]
    unfold rErr
    by_cases h1 : hasD d k
    · cases h2 : d.crashed <;> simp [h1]
    · simp [h1]
end Go.Proofs.YtjnhcanohefjiaaGreatDoor
