/- The document's device, plainly: a list of sectors in order; how it is tied to the device. -/
import Derived.Test.YtjnhcanohefjiaaGreatDoorDMath
namespace Go.Proofs.YtjnhcanohefjiaaGreatDoor

/-- A sector that was ever written. -/
structure RS where
  key : Pl
  safe : Ct
  now : Ct
  pend : Bool
def SrtR (l : List RS) : Prop := l.Pairwise (fun a b => ltP a.key b.key)
def findR (l : List RS) (k : Pl) : Option RS := l.find? (fun x => decide (x.key = k))
def pendL (l : List RS) : List (Pl × Ct) := (l.filter (·.pend)).map (fun x => (x.key, x.now))
def safeL (l : List RS) (k : Pl) : Ct := ((findR l k).map (·.safe)).getD zeroC
def putR : List RS → Pl → Ct → List RS
  | [], k, c => [⟨k, zeroC, c, true⟩]
  | x :: r, k, c => if ltP k x.key then ⟨k, zeroC, c, true⟩ :: x :: r else if k = x.key then ⟨k, x.safe, c, true⟩ :: r else x :: putR r k c
def syncO (g : Int) (x : RS) : RS := if x.key.1 = g ∧ x.pend = true then ⟨x.key, x.now, x.now, false⟩ else x
def syncR (g : Int) (l : List RS) : List RS := l.map (syncO g)
def restR : List RS → List Int → List RS
  | [], _ => []
  | x :: r, ns => if x.pend = true then ⟨x.key, chosenC (ns.headD 0) x.now x.safe, x.now, false⟩ :: restR r ns.tail else x :: restR r ns
theorem findR_cons (x : RS) (r : List RS) (k : Pl) : findR (x :: r) k = if x.key = k then some x else findR r k := by
  unfold findR
  by_cases h : x.key = k <;> simp [h]
theorem findR_none {l : List RS} {k : Pl} (h : ∀ x ∈ l, x.key ≠ k) : findR l k = none := by
  unfold findR
  exact List.find?_eq_none.2 fun x hx => by simp [h x hx]
theorem findR_mem {l : List RS} {k : Pl} {x : RS} (h : findR l k = some x) : x ∈ l ∧ x.key = k := by
  unfold findR at h
  exact ⟨List.mem_of_find?_eq_some h, by simpa using List.find?_some h⟩
theorem safeL_cons (x : RS) (r : List RS) (k : Pl) : safeL (x :: r) k = if x.key = k then x.safe else safeL r k := by
  unfold safeL
  rw [findR_cons]
  split <;> rfl
theorem pendL_cons (x : RS) (r : List RS) : pendL (x :: r) = if x.pend = true then (x.key, x.now) :: pendL r else pendL r := by
  unfold pendL
  by_cases h : x.pend = true <;> simp [h]
theorem mem_pendL {l : List RS} {y : Pl × Ct} (h : y ∈ pendL l) : ∃ x ∈ l, x.key = y.1 ∧ x.now = y.2 := by
  unfold pendL at h
  obtain ⟨x, hx, rfl⟩ := List.mem_map.1 h
  exact ⟨x, (List.mem_filter.1 hx).1, rfl, rfl⟩
theorem getP_none {l : List (Pl × Ct)} {k : Pl} (h : ∀ x ∈ l, x.1 ≠ k) : getP l k = none := by
  unfold getP
  rw [List.find?_eq_none.2 fun x hx => by simp [h x hx]]; rfl
theorem srtR_cons {x : RS} {r : List RS} (h : SrtR (x :: r)) : (∀ y ∈ r, ltP x.key y.key) ∧ SrtR r := List.pairwise_cons.1 h
/-- What is pending at a place. -/
theorem get_pendL : ∀ {l : List RS} (k : Pl), SrtR l → getP (pendL l) k = (findR l k).bind (fun x => if x.pend = true then some x.now else none)
  | [], k, _ => rfl
  | x :: r, k, h => by
    obtain ⟨h1, h2⟩ := srtR_cons h
    rw [pendL_cons, findR_cons]
    by_cases e : x.key = k
    · rw [if_pos e]
      by_cases hp : x.pend = true
      · rw [if_pos hp, getP_cons, if_pos e]; simp [hp]
      · rw [if_neg hp, getP_none]
        · simp [hp]
        · intro y hy
          obtain ⟨z, hz, hk, _⟩ := mem_pendL hy
          rw [← hk, ← e]
          exact Ne.symm (ltP_ne (h1 z hz))
    · rw [if_neg e]
      by_cases hp : x.pend = true
      · rw [if_pos hp, getP_cons, if_neg e, get_pendL k h2]
      · rw [if_neg hp, get_pendL k h2]
theorem mem_putR : ∀ {l : List RS} {k : Pl} {c : Ct} {x : RS}, x ∈ putR l k c → (x.key = k ∧ x.now = c ∧ (x.safe = zeroC ∨ ∃ y ∈ l, x.safe = y.safe)) ∨ x ∈ l
  | [], k, c, x, h => by
    simp [putR] at h; subst h; exact .inl ⟨rfl, rfl, .inl rfl⟩
  | y :: r, k, c, x, h => by
    unfold putR at h
    split at h
    · rcases List.mem_cons.1 h with rfl | h
      · exact .inl ⟨rfl, rfl, .inl rfl⟩
      · exact .inr h
    · split at h
      · rcases List.mem_cons.1 h with rfl | h
        · exact .inl ⟨rfl, rfl, .inr ⟨y, List.mem_cons_self, rfl⟩⟩
        · exact .inr (List.mem_cons_of_mem _ h)
      · rcases List.mem_cons.1 h with rfl | h
        · exact .inr List.mem_cons_self
        · rcases mem_putR h with ⟨h1, h2, h3⟩ | h
          · exact .inl ⟨h1, h2, h3.imp_right fun ⟨z, hz, e⟩ => ⟨z, List.mem_cons_of_mem _ hz, e⟩⟩
          · exact .inr (List.mem_cons_of_mem _ h)
theorem srt_putR : ∀ {l : List RS} (k : Pl) (c : Ct), SrtR l → SrtR (putR l k c)
  | [], k, c, _ => by simp [putR, SrtR]
  | y :: r, k, c, h => by
    obtain ⟨h1, h2⟩ := srtR_cons h
    unfold putR
    split
    · rename_i hk
      refine List.pairwise_cons.2 ⟨fun q hq => ?_, h⟩
      rcases List.mem_cons.1 hq with rfl | hq
      · exact hk
      · exact ltP_trans hk (h1 q hq)
    · split
      · rename_i hk
        refine List.pairwise_cons.2 ⟨fun q hq => ?_, h2⟩
        show ltP k q.key
        rw [hk]; exact h1 q hq
      · rename_i h3 h4
        refine List.pairwise_cons.2 ⟨fun q hq => ?_, srt_putR k c h2⟩
        rcases mem_putR hq with ⟨hq, _⟩ | hq
        · rw [hq]
          rcases ltP_total k y.key with h | h | h
          · exact absurd h h3
          · exact absurd h h4
          · exact h
        · exact h1 q hq
theorem putP_front {l : List (Pl × Ct)} {k : Pl} (c : Ct) (h : ∀ x ∈ l, ltP k x.1) : putP l k c = (k, c) :: l := by
  cases l with
  | nil => rfl
  | cons x r => unfold putP; rw [if_pos (h x List.mem_cons_self)]
theorem pend_putR : ∀ {l : List RS} (k : Pl) (c : Ct), SrtR l → pendL (putR l k c) = putP (pendL l) k c
  | [], k, c, _ => rfl
  | y :: r, k, c, h => by
    obtain ⟨h1, h2⟩ := srtR_cons h
    have hr : ∀ {q : Pl}, q = y.key ∨ ltP q y.key → ∀ x ∈ pendL r, ltP q x.1 := by
      intro q hq x hx
      obtain ⟨z, hz, hk, _⟩ := mem_pendL hx
      rw [← hk]
      rcases hq with rfl | hq
      · exact h1 z hz
      · exact ltP_trans hq (h1 z hz)
    unfold putR
    split
    · rename_i hk
      rw [pendL_cons, if_pos rfl, putP_front]
      intro x hx
      rw [pendL_cons] at hx
      split at hx
      · rcases List.mem_cons.1 hx with rfl | hx
        · exact hk
        · exact hr (.inr hk) x hx
      · exact hr (.inr hk) x hx
    · rename_i hk
      split
      · rename_i he
        rw [pendL_cons, if_pos rfl, pendL_cons]
        split
        · unfold putP
          rw [if_neg (by simpa using hk), if_pos (by simpa using he)]
        · rw [putP_front _ (hr (.inl he))]
      · rename_i he
        rw [pendL_cons, pendL_cons, pend_putR k c h2]
        split
        · rw [show putP ((y.key, y.now) :: pendL r) k c = (y.key, y.now) :: putP (pendL r) k c by
            conv => lhs; unfold putP
            rw [if_neg (by simpa using hk), if_neg (by simpa using he)]]
        · rfl
theorem safe_putR : ∀ {l : List RS} (k : Pl) (c : Ct) (j : Pl), SrtR l → safeL (putR l k c) j = safeL l j
  | [], k, c, j, _ => by
    unfold putR
    rw [safeL_cons]
    split <;> rfl
  | y :: r, k, c, j, h => by
    obtain ⟨h1, h2⟩ := srtR_cons h
    unfold putR
    split
    · rename_i hk
      rw [safeL_cons]
      split
      · rename_i e
        have : findR (y :: r) j = none := findR_none fun x hx => by
          rw [← e]
          rcases List.mem_cons.1 hx with rfl | hx
          · exact Ne.symm (ltP_ne hk)
          · exact Ne.symm (ltP_ne (ltP_trans hk (h1 x hx)))
        unfold safeL
        rw [this]; rfl
      · rfl
    · split
      · rename_i he
        rw [safeL_cons, safeL_cons, he]
      · rw [safeL_cons, safeL_cons, safe_putR k c j h2]
/-- Where one is put, what lies ahead of it stays. -/
theorem putR_split : ∀ {A : List RS} (B : List RS) (k : Pl) (c : Ct), (∀ x ∈ A, ltP x.key k) → putR (A ++ B) k c = A ++ putR B k c
  | [], B, k, c, _ => rfl
  | x :: A, B, k, c, h => by
    have hx := h x List.mem_cons_self
    show putR (x :: (A ++ B)) k c = _
    conv => lhs; unfold putR
    rw [if_neg (fun e => ltP_irrefl _ (ltP_trans e hx)), if_neg (fun e : k = x.key => ltP_ne hx e.symm), putR_split B k c (fun y hy => h y (List.mem_cons_of_mem _ hy))]
    simp only [List.cons_append]
theorem findR_split {A : List RS} (B : List RS) (k : Pl) (h : ∀ x ∈ A, ltP x.key k) : findR (A ++ B) k = findR B k := by
  unfold findR
  rw [List.find?_append, List.find?_eq_none.2 fun x hx => by simp [ltP_ne (h x hx)]]; rfl
theorem syncO_key (g : Int) (x : RS) : (syncO g x).key = x.key := by unfold syncO; split <;> rfl
theorem findR_map {f : RS → RS} (hf : ∀ x, (f x).key = x.key) (l : List RS) (k : Pl) : findR (l.map f) k = (findR l k).map f := by
  induction l with
  | nil => rfl
  | cons x r ih =>
    rw [List.map_cons, findR_cons, findR_cons, hf, ih]
    split <;> rfl
theorem srt_syncR {g : Int} {l : List RS} (h : SrtR l) : SrtR (syncR g l) := by
  unfold SrtR syncR
  rw [List.pairwise_map]
  exact List.Pairwise.imp (fun h => by rw [syncO_key, syncO_key]; exact h) h
theorem pend_syncR (g : Int) : ∀ (l : List RS), pendL (syncR g l) = (pendL l).filter (fun x => decide (x.1.1 ≠ g))
  | [] => rfl
  | x :: r => by
    show pendL (syncO g x :: syncR g r) = _
    rw [pendL_cons, pendL_cons, pend_syncR g r, syncO_key]
    by_cases hp : x.pend = true
    · by_cases hg : x.key.1 = g
      · rw [if_neg (by simp [syncO, hp, hg]), if_pos hp, List.filter_cons, if_neg (by simp [hg])]
      · have e : syncO g x = x := by simp [syncO, hg]
        rw [e, if_pos hp, if_pos hp, List.filter_cons, if_pos (by simp [hg])]
    · have e : syncO g x = x := by simp [syncO, hp]
      rw [e, if_neg hp, if_neg hp]
theorem safe_syncR {g : Int} {l : List RS} (h : SrtR l) (k : Pl) : safeL (syncR g l) k = if k.1 = g then (getP (pendL l) k).getD (safeL l k) else safeL l k := by
  rw [get_pendL k h]
  unfold safeL syncR
  rw [findR_map (syncO_key g)]
  cases hf : findR l k with
  | none => simp
  | some x =>
    have hk := (findR_mem hf).2
    by_cases hg : k.1 = g
    · by_cases hp : x.pend = true <;> simp [syncO, hk, hg, hp]
    · simp [syncO, hk, hg]
theorem mem_syncR {g : Int} {l : List RS} {x : RS} (h : x ∈ syncR g l) : ∃ y ∈ l, x.key = y.key ∧ x.now = y.now ∧ (x.safe = y.safe ∨ x.safe = y.now) := by
  obtain ⟨y, hy, rfl⟩ := List.mem_map.1 h
  refine ⟨y, hy, syncO_key g y, ?_, ?_⟩ <;> unfold syncO <;> split <;> simp
theorem mem_restR : ∀ {l : List RS} {ns : List Int} {x : RS}, x ∈ restR l ns → ∃ y ∈ l, x.key = y.key ∧ x.now = y.now ∧ x.pend = false ∧ (x.safe = y.safe ∨ ∃ n, x.safe = chosenC n y.now y.safe)
  | [], _, x, h => by simp [restR] at h
  | y :: r, ns, x, h => by
    unfold restR at h
    split at h
    · rcases List.mem_cons.1 h with rfl | h
      · exact ⟨y, List.mem_cons_self, rfl, rfl, rfl, .inr ⟨_, rfl⟩⟩
      · obtain ⟨z, hz, e⟩ := mem_restR h
        exact ⟨z, List.mem_cons_of_mem _ hz, e⟩
    · rename_i hp
      rcases List.mem_cons.1 h with rfl | h
      · exact ⟨x, List.mem_cons_self, rfl, rfl, by simpa using hp, .inl rfl⟩
      · obtain ⟨z, hz, e⟩ := mem_restR h
        exact ⟨z, List.mem_cons_of_mem _ hz, e⟩
theorem srt_restR : ∀ {l : List RS} (ns : List Int), SrtR l → SrtR (restR l ns)
  | [], _, _ => List.Pairwise.nil
  | x :: r, ns, h => by
    obtain ⟨h1, h2⟩ := srtR_cons h
    unfold restR
    split
    · refine List.pairwise_cons.2 ⟨fun y hy => ?_, srt_restR _ h2⟩
      obtain ⟨z, hz, e, _⟩ := mem_restR hy
      rw [e]; exact h1 z hz
    · refine List.pairwise_cons.2 ⟨fun y hy => ?_, srt_restR _ h2⟩
      obtain ⟨z, hz, e, _⟩ := mem_restR hy
      rw [e]; exact h1 z hz
theorem pend_restR (l : List RS) (ns : List Int) : pendL (restR l ns) = [] := by
  unfold pendL
  rw [List.map_eq_nil_iff, List.filter_eq_nil_iff]
  intro x hx
  obtain ⟨_, _, _, _, e, _⟩ := mem_restR hx
  simp [e]
theorem chosen_zero (a b : Ct) : chosenC 0 a b = b := by simp [chosenC]
theorem safe_restR : ∀ {l : List RS} (ns : List Int) (f : Pl → Ct), SrtR l → (∀ x ∈ l, f x.key = x.safe) → ∀ k, goR f (pendL l) ns k = if (findR l k).isSome = true then safeL (restR l ns) k else f k
  | [], ns, f, _, _, k => by
    have : goR f (pendL []) ns = f := by cases ns <;> rfl
    rw [this]; simp [findR]
  | x :: r, ns, f, h, hf, k => by
    obtain ⟨h1, h2⟩ := srtR_cons h
    have hx := hf x List.mem_cons_self
    have hne : ∀ y ∈ r, y.key ≠ x.key := fun y hy => Ne.symm (ltP_ne (h1 y hy))
    have hnr : findR r x.key = none := findR_none hne
    rw [pendL_cons, findR_cons]
    unfold restR
    by_cases hp : x.pend = true
    · rw [if_pos hp, if_pos hp, safeL_cons]
      cases ns with
      | nil =>
        have ih := safe_restR [] f h2 (fun y hy => hf y (List.mem_cons_of_mem _ hy)) k
        have e0 : goR f ((x.key, x.now) :: pendL r) [] = f := rfl
        have e1 : goR f (pendL r) [] = f := by cases pendL r <;> rfl
        rw [e1] at ih
        rw [e0]
        by_cases e : x.key = k
        · simp [e, ← hx, chosen_zero]
        · simp only [if_neg e]
          exact ih
      | cons n ns =>
        have ih := safe_restR ns (updC f x.key (chosenC n x.now (f x.key))) h2 (fun y hy => by simp [updC, hne y hy, hf y (List.mem_cons_of_mem _ hy)]) k
        have e0 : goR f ((x.key, x.now) :: pendL r) (n :: ns) = goR (updC f x.key (chosenC n x.now (f x.key))) (pendL r) ns := rfl
        rw [e0, ih]
        by_cases e : x.key = k
        · subst e
          simp [hnr, updC, hx]
        · simp only [if_neg e, List.tail_cons]
          by_cases hs : (findR r k).isSome = true
          · simp [hs]
          · simp [hs, updC, Ne.symm e]
    · rw [if_neg hp, if_neg hp, safeL_cons]
      have ih := safe_restR ns f h2 (fun y hy => hf y (List.mem_cons_of_mem _ hy)) k
      rw [ih]
      by_cases e : x.key = k
      · subst e
        simp [hnr, hx]
      · simp only [if_neg e]
/-- The document's device. -/
structure RD where
  r : Int
  s : Int
  l : List RS
  crashed : Bool
  armed : Bool
  left : Int
def newR (r s : Int) : RD := ⟨r, s, [], false, false, 0⟩
def doneR (x : RD) (k : Pl) (c : Ct) : RD :=
  if x.armed = true ∧ x.left = 0 then { x with l := putR x.l k c, crashed := true } else { x with l := putR x.l k c, left := IntKind.i64.wrap (x.left - 1) }
def writeR (x : RD) (d : Dev) (k : Pl) (xs : List Nat) : RD := if ¬ hasD d k ∨ 64 < xs.length ∨ d.crashed = true then x else doneR x k (fillC xs)
def syncRD (x : RD) (d : Dev) (g : Int) : RD := if sErr d g = 0 then { x with l := syncR g x.l } else x
def restRD (x : RD) (ns : List Int) : RD := { x with l := restR x.l ns, crashed := false, armed := false }
/-- Both are the same device. -/
structure Tie (d : Dev) (x : RD) : Prop where
  r : x.r = d.r
  s : x.s = d.s
  cr : x.crashed = d.crashed
  ar : x.armed = d.armed
  lf : d.armed = true → x.left = d.left
  srt : SrtR x.l
  pend : d.pend = pendL x.l
  safe : ∀ k, d.safe k = safeL x.l k
  ok : ∀ y ∈ x.l, okC y.safe ∧ okC y.now ∧ hasD d y.key
theorem tie_new (r s : Int) : Tie (newD r s) (newR r s) := ⟨rfl, rfl, rfl, rfl, (fun h => Bool.noConfusion h), List.Pairwise.nil, rfl, (fun _ => rfl), (fun y hy => by simp [newR] at hy)⟩
theorem tie_done {d : Dev} {x : RD} (h : Tie d x) {k : Pl} {c : Ct} (hk : hasD d k) (hc : okC c) (hcr : d.crashed = false) (hl : 0 ≤ d.left ∧ d.left ≤ 9223372036854775807) : Tie (doneD d k c) (doneR x k c) := by
  have hl' : (doneR x k c).l = putR x.l k c := by unfold doneR; split <;> rfl
  refine ⟨?_, ?_, ?_, ?_, ?_, ?_, ?_, ?_, ?_⟩
  · unfold doneR; split <;> exact h.r
  · unfold doneR; split <;> exact h.s
  · show (doneR x k c).crashed = (d.crashed || (d.armed && decide (d.left = 0)))
    unfold doneR
    rw [hcr]
    cases ha : d.armed
    · rw [if_neg (by rw [h.ar, ha]; simp)]
      show x.crashed = _
      rw [h.cr, hcr]; rfl
    · rw [h.ar, ha, h.lf ha]
      by_cases h0 : d.left = 0
      · rw [if_pos ⟨rfl, h0⟩]; simp [h0]
      · rw [if_neg (fun e => h0 e.2)]
        show x.crashed = _
        rw [h.cr, hcr]; simp [h0]
  · unfold doneR; split <;> exact h.ar
  · intro ha
    have ha' : d.armed = true := ha
    show (doneR x k c).left = if d.armed = true ∧ d.left ≠ 0 then d.left - 1 else d.left
    unfold doneR
    rw [h.ar, ha', h.lf ha']
    by_cases h0 : d.left = 0
    · rw [if_pos ⟨rfl, h0⟩, if_neg (fun e => e.2 h0)]
    · rw [if_neg (fun e => h0 e.2), if_pos ⟨rfl, h0⟩]
      show IntKind.i64.wrap (d.left - 1) = _
      simp [IntKind.wrap, IntKind.bits, IntKind.signed]; omega
  · rw [hl']; exact srt_putR _ _ h.srt
  · rw [hl', pend_putR _ _ h.srt, ← h.pend]; rfl
  · intro j
    rw [hl', safe_putR _ _ _ h.srt]; exact h.safe j
  · intro y hy
    rw [hl'] at hy
    rcases mem_putR hy with ⟨h1, h2, h3⟩ | hy
    · refine ⟨?_, by rw [h2]; exact hc, by rw [h1]; exact hk⟩
      rcases h3 with e | ⟨z, hz, e⟩
      · rw [e]; exact okC_zero
      · rw [e]; exact (h.ok z hz).1
    · exact h.ok y hy
theorem tie_write {d : Dev} {x : RD} (h : Tie d x) {k : Pl} {xs : List Nat} (hx : ∀ y ∈ xs, y < 256) (hl : 0 ≤ d.left ∧ d.left ≤ 9223372036854775807) : Tie (writeD d k xs) (writeR x d k xs) := by
  unfold writeD writeR
  split
  · exact h
  · rename_i hn
    simp only [not_or, Decidable.not_not, Bool.not_eq_true] at hn
    exact tie_done h hn.1 (okC_fill (by omega) hx) hn.2.2 hl
theorem tie_sync {d : Dev} {x : RD} (h : Tie d x) (g : Int) : Tie (syncD d g) (syncRD x d g) := by
  unfold syncD syncRD
  split
  · refine ⟨h.r, h.s, h.cr, h.ar, h.lf, srt_syncR h.srt, ?_, ?_, ?_⟩
    · show d.pend.filter _ = pendL (syncR g x.l)
      rw [pend_syncR, h.pend]
    · intro k
      show (if k.1 = g then (getP d.pend k).getD (d.safe k) else d.safe k) = safeL (syncR g x.l) k
      rw [safe_syncR h.srt, h.pend, h.safe k]
    · intro y hy
      obtain ⟨z, hz, e1, e2, e3⟩ := mem_syncR hy
      obtain ⟨k1, k2, k3⟩ := h.ok z hz
      refine ⟨?_, by rw [e2]; exact k2, by rw [e1]; exact k3⟩
      rcases e3 with e | e
      · rw [e]; exact k1
      · rw [e]; exact k2
  · exact h
theorem safe_of_mem {l : List RS} {y : RS} (h : SrtR l) (hy : y ∈ l) : safeL l y.key = y.safe := by
  induction l with
  | nil => cases hy
  | cons x r ih =>
    obtain ⟨h1, h2⟩ := srtR_cons h
    rw [safeL_cons]
    rcases List.mem_cons.1 hy with rfl | hy
    · simp
    · rw [if_neg (ltP_ne (h1 y hy)), ih h2 hy]
theorem findR_restR : ∀ (l : List RS) (ns : List Int) (k : Pl), (findR (restR l ns) k).isSome = (findR l k).isSome
  | [], _, _ => rfl
  | x :: r, ns, k => by
    unfold restR
    split <;> (rw [findR_cons, findR_cons]; split <;> first | rfl | exact findR_restR r _ k)
theorem tie_rest {d : Dev} {x : RD} (h : Tie d x) (ns : List Int) : Tie (restartD d ns) (restRD x ns) := by
  refine ⟨h.r, h.s, rfl, rfl, (fun e => Bool.noConfusion e), srt_restR ns h.srt, (pend_restR _ _).symm, ?_, ?_⟩
  · intro k
    show goR d.safe d.pend ns k = safeL (restR x.l ns) k
    rw [h.pend, safe_restR ns d.safe h.srt (fun y hy => by rw [h.safe, safe_of_mem h.srt hy]) k]
    split
    · rfl
    · rename_i hn
      rw [h.safe]
      unfold safeL
      have e1 := hn
      rw [← findR_restR x.l ns k] at e1
      simp only [Bool.not_eq_true, Option.isSome_eq_false_iff, Option.isNone_iff_eq_none] at hn e1
      rw [hn, e1]
  · intro y hy
    obtain ⟨z, hz, e1, e2, _, e3⟩ := mem_restR hy
    obtain ⟨k1, k2, k3⟩ := h.ok z hz
    refine ⟨?_, by rw [e2]; exact k2, by rw [e1]; exact k3⟩
    rcases e3 with e | ⟨n, e⟩
    · rw [e]; exact k1
    · rw [e]; exact okC_chosen k2 k1
theorem tie_pend {d : Dev} {x : RD} (h : Tie d x) (g : Int) : pendD d g = (x.l.filter (fun y => decide (y.key.1 = g) && y.pend)).map (·.key.2) := by
  unfold pendD
  rw [h.pend]
  clear h
  generalize x.l = l
  induction l with
  | nil => rfl
  | cons y r ih =>
    rw [pendL_cons]
    by_cases hp : y.pend = true <;> by_cases hg : y.key.1 = g <;> simp [hp, hg, ih]
/-- What the document reads. -/
def readR (l : List RS) (k : Pl) : Ct := match findR l k with | none => zeroC | some x => if x.pend = true then x.now else x.safe
theorem tie_read {d : Dev} {x : RD} (h : Tie d x) (k : Pl) : readR x.l k = readD d k := by
  unfold readR readD
  rw [h.pend, get_pendL k h.srt, h.safe k]
  unfold safeL
  cases findR x.l k with
  | none => rfl
  | some y => by_cases hp : y.pend = true <;> simp [hp]
theorem length_putR : ∀ (l : List RS) (k : Pl) (c : Ct), (putR l k c).length ≤ l.length + 1
  | [], k, c => by simp [putR]
  | y :: r, k, c => by
    unfold putR
    split
    · simp
    · split
      · simp
      · have := length_putR r k c
        simp; omega
theorem length_restR : ∀ (l : List RS) (ns : List Int), (restR l ns).length = l.length
  | [], _ => rfl
  | x :: r, ns => by unfold restR; split <;> simp [length_restR r]
theorem length_syncR (g : Int) (l : List RS) : (syncR g l).length = l.length := by simp [syncR]
end Go.Proofs.YtjnhcanohefjiaaGreatDoor
