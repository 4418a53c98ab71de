/- The document's device, plainly: a list of sectors in order; how it is tied to the device; The document's sectors in memory; appended to a row of one's own; The walks of the document's New, has and filled; The walk of the document's find; The walk of the document's Read; what find tells of the list. -/
import Derived.Test.YthaihallfjjnpaaGreatDoorDMath
import Derived.Test.YthaihallfjjnpaaGreatDoorDSure
import Derived.Deep.AppendLies
import Derived.Lib.BufferWrite
namespace Go.Proofs.YthaihallfjjnpaaGreatDoor

/-- A sector that was ever written. -/
structure RS where
  key : Pl
  safe : Ct
  now : Ct
  pend : Bool
def SrtR (l : List RS) : Prop := l.Pairwise (fun a b => ltP a.key b.key)
def findR (l : List RS) (k : Pl) : Option RS := l.find? (fun x => decide (x.key = k))
def pendL (l : List RS) : List (Pl × Ct) := (l.filter (·.pend)).map (fun x => (x.key, x.now))
def safeL (l : List RS) (k : Pl) : Ct := ((findR l k).map (·.safe)).getD zeroC
def putR : List RS → Pl → Ct → List RS
  | [], k, c => [⟨k, zeroC, c, true⟩]
  | x :: r, k, c => if ltP k x.key then ⟨k, zeroC, c, true⟩ :: x :: r else if k = x.key then ⟨k, x.safe, c, true⟩ :: r else x :: putR r k c
def syncO (g : Int) (x : RS) : RS := if x.key.1 = g ∧ x.pend = true then ⟨x.key, x.now, x.now, false⟩ else x
def syncR (g : Int) (l : List RS) : List RS := l.map (syncO g)
def restR : List RS → List Int → List RS
  | [], _ => []
  | x :: r, ns => if x.pend = true then ⟨x.key, chosenC (ns.headD 0) x.now x.safe, x.now, false⟩ :: restR r ns.tail else x :: restR r ns
theorem findR_cons (x : RS) (r : List RS) (k : Pl) : findR (x :: r) k = if x.key = k then some x else findR r k := by
  unfold findR
  by_cases h : x.key = k <;> simp [h]
theorem findR_none {l : List RS} {k : Pl} (h : ∀ x ∈ l, x.key ≠ k) : findR l k = none := by
  unfold findR
  exact List.find?_eq_none.2 fun x hx => by simp [h x hx]
theorem findR_mem {l : List RS} {k : Pl} {x : RS} (h : findR l k = some x) : x ∈ l ∧ x.key = k := by
  unfold findR at h
  exact ⟨List.mem_of_find?_eq_some h, by simpa using List.find?_some h⟩
theorem safeL_cons (x : RS) (r : List RS) (k : Pl) : safeL (x :: r) k = if x.key = k then x.safe else safeL r k := by
  unfold safeL
  rw [findR_cons]
  split <;> rfl
theorem pendL_cons (x : RS) (r : List RS) : pendL (x :: r) = if x.pend = true then (x.key, x.now) :: pendL r else pendL r := by
  unfold pendL
  by_cases h : x.pend = true <;> simp [h]
theorem mem_pendL {l : List RS} {y : Pl × Ct} (h : y ∈ pendL l) : ∃ x ∈ l, x.key = y.1 ∧ x.now = y.2 := by
  unfold pendL at h
  obtain ⟨x, hx, rfl⟩ := List.mem_map.1 h
  exact ⟨x, (List.mem_filter.1 hx).1, rfl, rfl⟩
theorem getP_none {l : List (Pl × Ct)} {k : Pl} (h : ∀ x ∈ l, x.1 ≠ k) : getP l k = none := by
  unfold getP
  rw [List.find?_eq_none.2 fun x hx => by simp [h x hx]]; rfl
theorem srtR_cons {x : RS} {r : List RS} (h : SrtR (x :: r)) : (∀ y ∈ r, ltP x.key y.key) ∧ SrtR r := List.pairwise_cons.1 h
/-- What is pending at a place. -/
theorem get_pendL : ∀ {l : List RS} (k : Pl), SrtR l → getP (pendL l) k = (findR l k).bind (fun x => if x.pend = true then some x.now else none)
  | [], k, _ => rfl
  | x :: r, k, h => by
    obtain ⟨h1, h2⟩ := srtR_cons h
    rw [pendL_cons, findR_cons]
    by_cases e : x.key = k
    · rw [if_pos e]
      by_cases hp : x.pend = true
      · rw [if_pos hp, getP_cons, if_pos e]; simp [hp]
      · rw [if_neg hp, getP_none]
        · simp [hp]
        · intro y hy
          obtain ⟨z, hz, hk, _⟩ := mem_pendL hy
          rw [← hk, ← e]
          exact Ne.symm (ltP_ne (h1 z hz))
    · rw [if_neg e]
      by_cases hp : x.pend = true
      · rw [if_pos hp, getP_cons, if_neg e, get_pendL k h2]
      · rw [if_neg hp, get_pendL k h2]
theorem mem_putR : ∀ {l : List RS} {k : Pl} {c : Ct} {x : RS}, x ∈ putR l k c → (x.key = k ∧ x.now = c ∧ (x.safe = zeroC ∨ ∃ y ∈ l, x.safe = y.safe)) ∨ x ∈ l
  | [], k, c, x, h => by
    simp [putR] at h; subst h; exact .inl ⟨rfl, rfl, .inl rfl⟩
  | y :: r, k, c, x, h => by
    unfold putR at h
    split at h
    · rcases List.mem_cons.1 h with rfl | h
      · exact .inl ⟨rfl, rfl, .inl rfl⟩
      · exact .inr h
    · split at h
      · rcases List.mem_cons.1 h with rfl | h
        · exact .inl ⟨rfl, rfl, .inr ⟨y, List.mem_cons_self, rfl⟩⟩
        · exact .inr (List.mem_cons_of_mem _ h)
      · rcases List.mem_cons.1 h with rfl | h
        · exact .inr List.mem_cons_self
        · rcases mem_putR h with ⟨h1, h2, h3⟩ | h
          · exact .inl ⟨h1, h2, h3.imp_right fun ⟨z, hz, e⟩ => ⟨z, List.mem_cons_of_mem _ hz, e⟩⟩
          · exact .inr (List.mem_cons_of_mem _ h)
theorem srt_putR : ∀ {l : List RS} (k : Pl) (c : Ct), SrtR l → SrtR (putR l k c)
  | [], k, c, _ => by simp [putR, SrtR]
  | y :: r, k, c, h => by
    obtain ⟨h1, h2⟩ := srtR_cons h
    unfold putR
    split
    · rename_i hk
      refine List.pairwise_cons.2 ⟨fun q hq => ?_, h⟩
      rcases List.mem_cons.1 hq with rfl | hq
      · exact hk
      · exact ltP_trans hk (h1 q hq)
    · split
      · rename_i hk
        refine List.pairwise_cons.2 ⟨fun q hq => ?_, h2⟩
        show ltP k q.key
        rw [hk]; exact h1 q hq
      · rename_i h3 h4
        refine List.pairwise_cons.2 ⟨fun q hq => ?_, srt_putR k c h2⟩
        rcases mem_putR hq with ⟨hq, _⟩ | hq
        · rw [hq]
          rcases ltP_total k y.key with h | h | h
          · exact absurd h h3
          · exact absurd h h4
          · exact h
        · exact h1 q hq
theorem putP_front {l : List (Pl × Ct)} {k : Pl} (c : Ct) (h : ∀ x ∈ l, ltP k x.1) : putP l k c = (k, c) :: l := by
  cases l with
  | nil => rfl
  | cons x r => unfold putP; rw [if_pos (h x List.mem_cons_self)]
theorem pend_putR : ∀ {l : List RS} (k : Pl) (c : Ct), SrtR l → pendL (putR l k c) = putP (pendL l) k c
  | [], k, c, _ => rfl
  | y :: r, k, c, h => by
    obtain ⟨h1, h2⟩ := srtR_cons h
    have hr : ∀ {q : Pl}, q = y.key ∨ ltP q y.key → ∀ x ∈ pendL r, ltP q x.1 := by
      intro q hq x hx
      obtain ⟨z, hz, hk, _⟩ := mem_pendL hx
      rw [← hk]
      rcases hq with rfl | hq
      · exact h1 z hz
      · exact ltP_trans hq (h1 z hz)
    unfold putR
    split
    · rename_i hk
      rw [pendL_cons, if_pos rfl, putP_front]
      intro x hx
      rw [pendL_cons] at hx
      split at hx
      · rcases List.mem_cons.1 hx with rfl | hx
        · exact hk
        · exact hr (.inr hk) x hx
      · exact hr (.inr hk) x hx
    · rename_i hk
      split
      · rename_i he
        rw [pendL_cons, if_pos rfl, pendL_cons]
        split
        · unfold putP
          rw [if_neg (by simpa using hk), if_pos (by simpa using he)]
        · rw [putP_front _ (hr (.inl he))]
      · rename_i he
        rw [pendL_cons, pendL_cons, pend_putR k c h2]
        split
        · rw [show putP ((y.key, y.now) :: pendL r) k c = (y.key, y.now) :: putP (pendL r) k c by
            conv => lhs; unfold putP
            rw [if_neg (by simpa using hk), if_neg (by simpa using he)]]
        · rfl
theorem safe_putR : ∀ {l : List RS} (k : Pl) (c : Ct) (j : Pl), SrtR l → safeL (putR l k c) j = safeL l j
  | [], k, c, j, _ => by
    unfold putR
    rw [safeL_cons]
    split <;> rfl
  | y :: r, k, c, j, h => by
    obtain ⟨h1, h2⟩ := srtR_cons h
    unfold putR
    split
    · rename_i hk
      rw [safeL_cons]
      split
      · rename_i e
        have : findR (y :: r) j = none := findR_none fun x hx => by
          rw [← e]
          rcases List.mem_cons.1 hx with rfl | hx
          · exact Ne.symm (ltP_ne hk)
          · exact Ne.symm (ltP_ne (ltP_trans hk (h1 x hx)))
        unfold safeL
        rw [this]; rfl
      · rfl
    · split
      · rename_i he
        rw [safeL_cons, safeL_cons, he]
      · rw [safeL_cons, safeL_cons, safe_putR k c j h2]
/-- Where one is put, what lies ahead of it stays. -/
theorem putR_split : ∀ {A : List RS} (B : List RS) (k : Pl) (c : Ct), (∀ x ∈ A, ltP x.key k) → putR (A ++ B) k c = A ++ putR B k c
  | [], B, k, c, _ => rfl
  | x :: A, B, k, c, h => by
    have hx := h x List.mem_cons_self
    show putR (x :: (A ++ B)) k c = _
    conv => lhs; unfold putR
    rw [if_neg (fun e => ltP_irrefl _ (ltP_trans e hx)), if_neg (fun e : k = x.key => ltP_ne hx e.symm), putR_split B k c (fun y hy => h y (List.mem_cons_of_mem _ hy))]
    simp only [List.cons_append]
theorem findR_split {A : List RS} (B : List RS) (k : Pl) (h : ∀ x ∈ A, ltP x.key k) : findR (A ++ B) k = findR B k := by
  unfold findR
  rw [List.find?_append, List.find?_eq_none.2 fun x hx => by simp [ltP_ne (h x hx)]]; rfl
theorem syncO_key (g : Int) (x : RS) : (syncO g x).key = x.key := by unfold syncO; split <;> rfl
theorem findR_map {f : RS → RS} (hf : ∀ x, (f x).key = x.key) (l : List RS) (k : Pl) : findR (l.map f) k = (findR l k).map f := by
  induction l with
  | nil => rfl
  | cons x r ih =>
    rw [List.map_cons, findR_cons, findR_cons, hf, ih]
    split <;> rfl
theorem srt_syncR {g : Int} {l : List RS} (h : SrtR l) : SrtR (syncR g l) := by
  unfold SrtR syncR
  rw [List.pairwise_map]
  exact List.Pairwise.imp (fun h => by rw [syncO_key, syncO_key]; exact h) h
theorem pend_syncR (g : Int) : ∀ (l : List RS), pendL (syncR g l) = (pendL l).filter (fun x => decide (x.1.1 ≠ g))
  | [] => rfl
  | x :: r => by
    show pendL (syncO g x :: syncR g r) = _
    rw [pendL_cons, pendL_cons, pend_syncR g r, syncO_key]
    by_cases hp : x.pend = true
    · by_cases hg : x.key.1 = g
      · rw [if_neg (by simp [syncO, hp, hg]), if_pos hp, List.filter_cons, if_neg (by simp [hg])]
      · have e : syncO g x = x := by simp [syncO, hg]
        rw [e, if_pos hp, if_pos hp, List.filter_cons, if_pos (by simp [hg])]
    · have e : syncO g x = x := by simp [syncO, hp]
      rw [e, if_neg hp, if_neg hp]
theorem safe_syncR {g : Int} {l : List RS} (h : SrtR l) (k : Pl) : safeL (syncR g l) k = if k.1 = g then (getP (pendL l) k).getD (safeL l k) else safeL l k := by
  rw [get_pendL k h]
  unfold safeL syncR
  rw [findR_map (syncO_key g)]
  cases hf : findR l k with
  | none => simp
  | some x =>
    have hk := (findR_mem hf).2
    by_cases hg : k.1 = g
    · by_cases hp : x.pend = true <;> simp [syncO, hk, hg, hp]
    · simp [syncO, hk, hg]
theorem mem_syncR {g : Int} {l : List RS} {x : RS} (h : x ∈ syncR g l) : ∃ y ∈ l, x.key = y.key ∧ x.now = y.now ∧ (x.safe = y.safe ∨ x.safe = y.now) := by
  obtain ⟨y, hy, rfl⟩ := List.mem_map.1 h
  refine ⟨y, hy, syncO_key g y, ?_, ?_⟩ <;> unfold syncO <;> split <;> simp
theorem mem_restR : ∀ {l : List RS} {ns : List Int} {x : RS}, x ∈ restR l ns → ∃ y ∈ l, x.key = y.key ∧ x.now = y.now ∧ x.pend = false ∧ (x.safe = y.safe ∨ ∃ n, x.safe = chosenC n y.now y.safe)
  | [], _, x, h => by simp [restR] at h
  | y :: r, ns, x, h => by
    unfold restR at h
    split at h
    · rcases List.mem_cons.1 h with rfl | h
      · exact ⟨y, List.mem_cons_self, rfl, rfl, rfl, .inr ⟨_, rfl⟩⟩
      · obtain ⟨z, hz, e⟩ := mem_restR h
        exact ⟨z, List.mem_cons_of_mem _ hz, e⟩
    · rename_i hp
      rcases List.mem_cons.1 h with rfl | h
      · exact ⟨x, List.mem_cons_self, rfl, rfl, by simpa using hp, .inl rfl⟩
      · obtain ⟨z, hz, e⟩ := mem_restR h
        exact ⟨z, List.mem_cons_of_mem _ hz, e⟩
theorem srt_restR : ∀ {l : List RS} (ns : List Int), SrtR l → SrtR (restR l ns)
  | [], _, _ => List.Pairwise.nil
  | x :: r, ns, h => by
    obtain ⟨h1, h2⟩ := srtR_cons h
    unfold restR
    split
    · refine List.pairwise_cons.2 ⟨fun y hy => ?_, srt_restR _ h2⟩
      obtain ⟨z, hz, e, _⟩ := mem_restR hy
      rw [e]; exact h1 z hz
    · refine List.pairwise_cons.2 ⟨fun y hy => ?_, srt_restR _ h2⟩
      obtain ⟨z, hz, e, _⟩ := mem_restR hy
      rw [e]; exact h1 z hz
theorem pend_restR (l : List RS) (ns : List Int) : pendL (restR l ns) = [] := by
  unfold pendL
  rw [List.map_eq_nil_iff, List.filter_eq_nil_iff]
  intro x hx
  obtain ⟨_, _, _, _, e, _⟩ := mem_restR hx
  simp [e]
theorem chosen_zero (a b : Ct) : chosenC 0 a b = b := by simp [chosenC]
theorem safe_restR : ∀ {l : List RS} (ns : List Int) (f : Pl → Ct), SrtR l → (∀ x ∈ l, f x.key = x.safe) → ∀ k, goR f (pendL l) ns k = if (findR l k).isSome = true then safeL (restR l ns) k else f k
  | [], ns, f, _, _, k => by
    have : goR f (pendL []) ns = f := by cases ns <;> rfl
    rw [this]; simp [findR]
  | x :: r, ns, f, h, hf, k => by
    obtain ⟨h1, h2⟩ := srtR_cons h
    have hx := hf x List.mem_cons_self
    have hne : ∀ y ∈ r, y.key ≠ x.key := fun y hy => Ne.symm (ltP_ne (h1 y hy))
    have hnr : findR r x.key = none := findR_none hne
    rw [pendL_cons, findR_cons]
    unfold restR
    by_cases hp : x.pend = true
    · rw [if_pos hp, if_pos hp, safeL_cons]
      cases ns with
      | nil =>
        have ih := safe_restR [] f h2 (fun y hy => hf y (List.mem_cons_of_mem _ hy)) k
        have e0 : goR f ((x.key, x.now) :: pendL r) [] = f := rfl
        have e1 : goR f (pendL r) [] = f := by cases pendL r <;> rfl
        rw [e1] at ih
        rw [e0]
        by_cases e : x.key = k
        · simp [e, ← hx, chosen_zero]
        · simp only [if_neg e]
          exact ih
      | cons n ns =>
        have ih := safe_restR ns (updC f x.key (chosenC n x.now (f x.key))) h2 (fun y hy => by simp [updC, hne y hy, hf y (List.mem_cons_of_mem _ hy)]) k
        have e0 : goR f ((x.key, x.now) :: pendL r) (n :: ns) = goR (updC f x.key (chosenC n x.now (f x.key))) (pendL r) ns := rfl
        rw [e0, ih]
        by_cases e : x.key = k
        · subst e
          simp [hnr, updC, hx]
        · simp only [if_neg e, List.tail_cons]
          by_cases hs : (findR r k).isSome = true
          · simp [hs]
          · simp [hs, updC, Ne.symm e]
    · rw [if_neg hp, if_neg hp, safeL_cons]
      have ih := safe_restR ns f h2 (fun y hy => hf y (List.mem_cons_of_mem _ hy)) k
      rw [ih]
      by_cases e : x.key = k
      · subst e
        simp [hnr, hx]
      · simp only [if_neg e]
/-- The document's device. -/
structure RD where
  r : Int
  s : Int
  l : List RS
  crashed : Bool
  armed : Bool
  left : Int
def newR (r s : Int) : RD := ⟨r, s, [], false, false, 0⟩
def doneR (x : RD) (k : Pl) (c : Ct) : RD :=
  if x.armed = true ∧ x.left = 0 then { x with l := putR x.l k c, crashed := true } else { x with l := putR x.l k c, left := IntKind.i64.wrap (x.left - 1) }
def writeR (x : RD) (d : Dev) (k : Pl) (xs : List Nat) : RD := if ¬ hasD d k ∨ 64 < xs.length ∨ d.crashed = true then x else doneR x k (fillC xs)
def syncRD (x : RD) (d : Dev) (g : Int) : RD := if sErr d g = 0 then { x with l := syncR g x.l } else x
def restRD (x : RD) (ns : List Int) : RD := { x with l := restR x.l ns, crashed := false, armed := false }
/-- Both are the same device. -/
structure Tie (d : Dev) (x : RD) : Prop where
  r : x.r = d.r
  s : x.s = d.s
  cr : x.crashed = d.crashed
  ar : x.armed = d.armed
  lf : d.armed = true → x.left = d.left
  srt : SrtR x.l
  pend : d.pend = pendL x.l
  safe : ∀ k, d.safe k = safeL x.l k
  ok : ∀ y ∈ x.l, okC y.safe ∧ okC y.now ∧ hasD d y.key
theorem tie_new (r s : Int) : Tie (newD r s) (newR r s) := ⟨rfl, rfl, rfl, rfl, (fun h => Bool.noConfusion h), List.Pairwise.nil, rfl, (fun _ => rfl), (fun y hy => by simp [newR] at hy)⟩
theorem tie_done {d : Dev} {x : RD} (h : Tie d x) {k : Pl} {c : Ct} (hk : hasD d k) (hc : okC c) (hcr : d.crashed = false) (hl : 0 ≤ d.left ∧ d.left ≤ 9223372036854775807) : Tie (doneD d k c) (doneR x k c) := by
  have hl' : (doneR x k c).l = putR x.l k c := by unfold doneR; split <;> rfl
  refine ⟨?_, ?_, ?_, ?_, ?_, ?_, ?_, ?_, ?_⟩
  · unfold doneR; split <;> exact h.r
  · unfold doneR; split <;> exact h.s
  · show (doneR x k c).crashed = (d.crashed || (d.armed && decide (d.left = 0)))
    unfold doneR
    rw [hcr]
    cases ha : d.armed
    · rw [if_neg (by rw [h.ar, ha]; simp)]
      show x.crashed = _
      rw [h.cr, hcr]; rfl
    · rw [h.ar, ha, h.lf ha]
      by_cases h0 : d.left = 0
      · rw [if_pos ⟨rfl, h0⟩]; simp [h0]
      · rw [if_neg (fun e => h0 e.2)]
        show x.crashed = _
        rw [h.cr, hcr]; simp [h0]
  · unfold doneR; split <;> exact h.ar
  · intro ha
    have ha' : d.armed = true := ha
    show (doneR x k c).left = if d.armed = true ∧ d.left ≠ 0 then d.left - 1 else d.left
    unfold doneR
    rw [h.ar, ha', h.lf ha']
    by_cases h0 : d.left = 0
    · rw [if_pos ⟨rfl, h0⟩, if_neg (fun e => e.2 h0)]
    · rw [if_neg (fun e => h0 e.2), if_pos ⟨rfl, h0⟩]
      show IntKind.i64.wrap (d.left - 1) = _
      simp [IntKind.wrap, IntKind.bits, IntKind.signed]; omega
  · rw [hl']; exact srt_putR _ _ h.srt
  · rw [hl', pend_putR _ _ h.srt, ← h.pend]; rfl
  · intro j
    rw [hl', safe_putR _ _ _ h.srt]; exact h.safe j
  · intro y hy
    rw [hl'] at hy
    rcases mem_putR hy with ⟨h1, h2, h3⟩ | hy
    · refine ⟨?_, by rw [h2]; exact hc, by rw [h1]; exact hk⟩
      rcases h3 with e | ⟨z, hz, e⟩
      · rw [e]; exact okC_zero
      · rw [e]; exact (h.ok z hz).1
    · exact h.ok y hy
theorem tie_write {d : Dev} {x : RD} (h : Tie d x) {k : Pl} {xs : List Nat} (hx : ∀ y ∈ xs, y < 256) (hl : 0 ≤ d.left ∧ d.left ≤ 9223372036854775807) : Tie (writeD d k xs) (writeR x d k xs) := by
  unfold writeD writeR
  split
  · exact h
  · rename_i hn
    simp only [not_or, Decidable.not_not, Bool.not_eq_true] at hn
    exact tie_done h hn.1 (okC_fill (by omega) hx) hn.2.2 hl
theorem tie_sync {d : Dev} {x : RD} (h : Tie d x) (g : Int) : Tie (syncD d g) (syncRD x d g) := by
  unfold syncD syncRD
  split
  · refine ⟨h.r, h.s, h.cr, h.ar, h.lf, srt_syncR h.srt, ?_, ?_, ?_⟩
    · show d.pend.filter _ = pendL (syncR g x.l)
      rw [pend_syncR, h.pend]
    · intro k
      show (if k.1 = g then (getP d.pend k).getD (d.safe k) else d.safe k) = safeL (syncR g x.l) k
      rw [safe_syncR h.srt, h.pend, h.safe k]
    · intro y hy
      obtain ⟨z, hz, e1, e2, e3⟩ := mem_syncR hy
      obtain ⟨k1, k2, k3⟩ := h.ok z hz
      refine ⟨?_, by rw [e2]; exact k2, by rw [e1]; exact k3⟩
      rcases e3 with e | e
      · rw [e]; exact k1
      · rw [e]; exact k2
  · exact h
theorem safe_of_mem {l : List RS} {y : RS} (h : SrtR l) (hy : y ∈ l) : safeL l y.key = y.safe := by
  induction l with
  | nil => cases hy
  | cons x r ih =>
    obtain ⟨h1, h2⟩ := srtR_cons h
    rw [safeL_cons]
    rcases List.mem_cons.1 hy with rfl | hy
    · simp
    · rw [if_neg (ltP_ne (h1 y hy)), ih h2 hy]
theorem findR_restR : ∀ (l : List RS) (ns : List Int) (k : Pl), (findR (restR l ns) k).isSome = (findR l k).isSome
  | [], _, _ => rfl
  | x :: r, ns, k => by
    unfold restR
    split <;> (rw [findR_cons, findR_cons]; split <;> first | rfl | exact findR_restR r _ k)
theorem tie_rest {d : Dev} {x : RD} (h : Tie d x) (ns : List Int) : Tie (restartD d ns) (restRD x ns) := by
  refine ⟨h.r, h.s, rfl, rfl, (fun e => Bool.noConfusion e), srt_restR ns h.srt, (pend_restR _ _).symm, ?_, ?_⟩
  · intro k
    show goR d.safe d.pend ns k = safeL (restR x.l ns) k
    rw [h.pend, safe_restR ns d.safe h.srt (fun y hy => by rw [h.safe, safe_of_mem h.srt hy]) k]
    split
    · rfl
    · rename_i hn
      rw [h.safe]
      unfold safeL
      have e1 := hn
      rw [← findR_restR x.l ns k] at e1
      simp only [Bool.not_eq_true, Option.isSome_eq_false_iff, Option.isNone_iff_eq_none] at hn e1
      rw [hn, e1]
  · intro y hy
    obtain ⟨z, hz, e1, e2, _, e3⟩ := mem_restR hy
    obtain ⟨k1, k2, k3⟩ := h.ok z hz
    refine ⟨?_, by rw [e2]; exact k2, by rw [e1]; exact k3⟩
    rcases e3 with e | ⟨n, e⟩
    · rw [e]; exact k1
    · rw [e]; exact okC_chosen k2 k1
theorem tie_pend {d : Dev} {x : RD} (h : Tie d x) (g : Int) : pendD d g = (x.l.filter (fun y => decide (y.key.1 = g) && y.pend)).map (·.key.2) := by
  unfold pendD
  rw [h.pend]
  clear h
  generalize x.l = l
  induction l with
  | nil => rfl
  | cons y r ih =>
    rw [pendL_cons]
    by_cases hp : y.pend = true <;> by_cases hg : y.key.1 = g <;> simp [hp, hg, ih]
/-- What the document reads. -/
def readR (l : List RS) (k : Pl) : Ct := match findR l k with | none => zeroC | some x => if x.pend = true then x.now else x.safe
theorem tie_read {d : Dev} {x : RD} (h : Tie d x) (k : Pl) : readR x.l k = readD d k := by
  unfold readR readD
  rw [h.pend, get_pendL k h.srt, h.safe k]
  unfold safeL
  cases findR x.l k with
  | none => rfl
  | some y => by_cases hp : y.pend = true <;> simp [hp]
theorem length_putR : ∀ (l : List RS) (k : Pl) (c : Ct), (putR l k c).length ≤ l.length + 1
  | [], k, c => by simp [putR]
  | y :: r, k, c => by
    unfold putR
    split
    · simp
    · split
      · simp
      · have := length_putR r k c
        simp; omega
theorem length_restR : ∀ (l : List RS) (ns : List Int), (restR l ns).length = l.length
  | [], _ => rfl
  | x :: r, ns => by unfold restR; split <;> simp [length_restR r]
theorem length_syncR (g : Int) (l : List RS) : (syncR g l).length = l.length := by simp [syncR]
end Go.Proofs.YthaihallfjjnpaaGreatDoor

namespace Go.Proofs.YthaihallfjjnpaaGreatDoor
open Go.RowKit Go.Sort Go.Maps

/-- A sector's cells. -/
def rsC (x : RS) : List Value := [.int .i64 x.key.1, .int .i64 x.key.2, .string (bs x.safe), .string (bs x.now), .bool x.pend]
def secC (l : List RS) : List Value := l.flatMap rsC
theorem secC_cons (x : RS) (r : List RS) : secC (x :: r) = rsC x ++ secC r := rfl
theorem secC_append (x y : List RS) : secC (x ++ y) = secC x ++ secC y := by simp [secC]
theorem rsC_len (x : RS) : (rsC x).length = 5 := rfl
theorem secC_len (l : List RS) : (secC l).length = l.length * 5 := by
  induction l with
  | nil => rfl
  | cons x r ih => rw [secC_cons, List.length_append, rsC_len, ih, List.length_cons]; omega
theorem secC_at : ∀ (l : List RS) (i j : Nat) (hi : i < l.length), j < 5 → (secC l)[i * 5 + j]? = (rsC l[i])[j]?
  | x :: r, 0, j, _, hj => by
    rw [secC_cons, List.getElem?_append_left (by rw [rsC_len]; omega)]
    simp
  | x :: r, i + 1, j, hi, hj => by
    rw [secC_cons, List.getElem?_append_right (by rw [rsC_len]; omega), rsC_len, show (i + 1) * 5 + j - 5 = i * 5 + j by omega, secC_at r i j (by simpa using hi) hj]
    simp
/-- A sector at a place. -/
def SecAt (w : World) (b o : Nat) (x : RS) : Prop := ∀ j, j < 5 → w.cell? ⟨b, o + j, none⟩ = (rsC x)[j]?
theorem SecAt.cells {w : World} {b o : Nat} {x : RS} (h : SecAt w b o x) : w.cell? ⟨b, o, none⟩ = some (.int .i64 x.key.1) ∧ w.cell? ⟨b, o + 1, none⟩ = some (.int .i64 x.key.2) ∧ w.cell? ⟨b, o + 2, none⟩ = some (.string (bs x.safe)) ∧ w.cell? ⟨b, o + 3, none⟩ = some (.string (bs x.now)) ∧ w.cell? ⟨b, o + 4, none⟩ = some (.bool x.pend) :=
  ⟨h 0 (by omega), h 1 (by omega), h 2 (by omega), h 3 (by omega), h 4 (by omega)⟩
def SecsIn (w : World) (a : Option Addr) (l : List RS) : Prop := ∀ i (h : i < l.length), ∃ b o, a = some ⟨b, o, none⟩ ∧ SecAt w b (o + i * 5) l[i]
theorem SecAt.on {w w' : World} {b o : Nat} {x : RS} (h : SecAt w b o x) (hb : Below w.heap.size w w') : SecAt w' b o x := by
  intro j hj
  have hv : ∃ v, w.cell? ⟨b, o + j, none⟩ = some v := by
    rw [h j hj]
    exact ⟨_, List.getElem?_eq_getElem (by rw [rsC_len]; exact hj)⟩
  obtain ⟨v, hv⟩ := hv
  exact (hb.cell (block_lt_of_cell hv)).trans (h j hj)
theorem SecsIn.on {w w' : World} {a : Option Addr} {l : List RS} (h : SecsIn w a l) (hb : Below w.heap.size w w') : SecsIn w' a l := fun i hi => by
  obtain ⟨b, o, e, h1⟩ := h i hi
  exact ⟨b, o, e, h1.on hb⟩
theorem secsIn_nil (w : World) (a : Option Addr) : SecsIn w a [] := fun i hi => by simp at hi
theorem secs_none {w : World} {l : List RS} (h : SecsIn w none l) : l = [] := by
  cases l with
  | nil => rfl
  | cons y ys => obtain ⟨_, _, hh, _⟩ := h 0 (by simp); cases hh
theorem SecsIn.news {w : World} {ad : Addr} {l : List RS} (h : SecsIn w (some ad) l) : ∀ j u, (secC l)[j]? = some u → w.cell? (ad.add j) = some u := by
  intro j u hj
  have hjl : j < (secC l).length := by
    rcases Nat.lt_or_ge j (secC l).length with hl | hl
    · exact hl
    · rw [List.getElem?_eq_none hl] at hj; cases hj
  rw [secC_len] at hjl
  obtain ⟨b, o, e, h1⟩ := h (j / 5) (by omega)
  cases e
  rw [Addr.add_lit]
  have h2 := h1 (j % 5) (by omega)
  rw [← secC_at l (j / 5) (j % 5) (by omega) (by omega), show j / 5 * 5 + j % 5 = j by omega, hj, show o + j / 5 * 5 + j % 5 = o + j by omega] at h2
  exact h2
theorem secC_one (l : List RS) : ∀ u ∈ secC l, u.oneCell' = true := by
  intro u hu
  obtain ⟨x, _, hx⟩ := List.mem_flatMap.1 hu
  simp only [rsC, List.mem_cons, List.not_mem_nil, or_false] at hx
  rcases hx with rfl | rfl | rfl | rfl | rfl <;> rfl
/-- A row of the document's sectors that the call has made. -/
def OwnS (w : World) (base : Nat) (v : Value) (l : List RS) : Prop := w.ownsRow base 103 5 v l.length (secC l)
theorem infoS : (Tryz.prog.info? 103).map (fun i => (i.zero, i.size, i.bytes)) = some (some (.agg #[.int .i64 0, .int .i64 0, .string ⟨#[]⟩, .string ⟨#[]⟩, .bool false]), 5, 56) := by kernel_rfl
theorem ownS_nil (w : World) (base : Nat) : OwnS w base (.slice none 0 0) [] := World.ownsRow_nil w base 103 5
theorem OwnS.on {w w' : World} {base : Nat} {v : Value} {l : List RS} (h : OwnS w base v l) (hb : Below w.heap.size w w') : OwnS w' base v l := by
  refine ⟨h.1, ?_⟩
  rcases h.2 with h1 | ⟨g, cap, cur, e, h1, h2, h3, h4, h5, h6⟩
  · exact .inl h1
  · exact .inr ⟨g, cap, cur, e, h1, (hb.block g (blk_lt h2)).trans h2, h3, h4, h5, h6⟩
theorem ownS_join {w : World} {base : Nat} {v : Value} {xs ys : List RS} (h : w.ownsRow base 103 5 v (xs.length + ys.length) (secC xs ++ secC ys)) : OwnS w base v (xs ++ ys) := by
  unfold OwnS
  rw [← secC_append] at h
  rw [List.length_append]
  exact h
theorem below_ownS {N : Nat} {w0 w w' : World} {v : Value} {es : List RS} (hN : N ≤ w0.heap.size) (hb : Below N w0 w) (hown : OwnS w N v es) (hg : w.grownBy w' v.ownBlock) : Below N w0 w' :=
  hb.grown hg (Nat.le_trans hN hb.size) (fun k hk => (World.ownsRow.lt hown k hk).1)
/-- append(row, sectors...). -/
theorem wpList_append_secs (N : Nat) (w w0 : World) {ops : Array Oper} {rest : List Oper} {o : Oper} {act : Act} {Q : Exit → Act → World → Prop} (hgd : o.guard = none) (s x : Operand)
    (ho : o.op = .call { callee := .builtin .append, args := #[s, x], argTypes := #[30, 30] }) (v : Value) (es ys : List RS) (hs : act.eval s = v) (hown : OwnS w N v es)
    (a : Option Addr) (m c : Nat) (hx : act.eval x = .slice a m c) (hm : ys.length = m) (hnil : a = none → c = 0) (hin : SecsIn w a ys) (hlen : es.length + ys.length ≤ 1000000) (hN : N ≤ w0.heap.size) (hb : Below N w0 w)
    (hK : ∀ v' w', OwnS w' N v' (es ++ ys) → Below N w0 w' → w.grownBy w' v.ownBlock → wpList Tryz.prog ops Q rest (act.put o.dst v') w') : wpList Tryz.prog ops Q (o :: rest) act w := by
  have hbase := Nat.le_trans hN hb.size
  obtain ⟨i0, hi, hz0, hz1, hz2⟩ := info_parts infoS
  subst hm
  refine wpList_plain hgd fun K hKK => ?_
  cases a with
  | none =>
    obtain rfl := secs_none hin
    obtain rfl := hnil rfl
    have hrun := run_append_owned_none (P := Tryz.prog) w N 30 o.type 103 i0 5 Tryz.underlying30 hi _ _ _ hown
    unfold Oper.wp
    simp only [List.length_nil] at hx
    simp [execOp, ho, resolve, invoke, builtin, hs, hx, hrun, Result.andThen]
    exact hKK _ _ (hK v w (by rw [List.append_nil]; exact hown) hb ⟨rfl, rfl, rfl, Nat.le_refl _, fun _ _ _ => rfl⟩)
  | some ad =>
    obtain ⟨v', w', hr, h2, h3, _⟩ := run_append_own_at (P := Tryz.prog) w N 30 o.type 103 i0 (.agg #[.int .i64 0, .int .i64 0, .string ⟨#[]⟩, .string ⟨#[]⟩, .bool false]) 5 56 Tryz.underlying30 hi hz0 hz1 hz2 rfl (by decide) v es.length (secC es) hown ad ys.length c (secC ys) (by rw [secC_len]) hin.news (secC_one ys) (by unfold maxLen; omega) (by omega) hbase
    unfold Oper.wp execOp
    simp only [ho, resolve, invoke, builtin, Sem.run_bind, Sem.run_pure, Result.andThen_ok, List.map_toArray, List.map_cons, List.map_nil, hs, hx, hr]
    exact hKK _ _ (hK v' w' (ownS_join h2) (below_ownS hN hb hown h3) h3)
/-- A list of the document's in memory. -/
def LstS (w : World) (a : Option Addr) (c : Nat) (l : List RS) : Prop := SecsIn w a l ∧ l.length ≤ c ∧ ((a = none ∧ c = 0) ∨ ∃ b o cs z, a = some ⟨b, o, none⟩ ∧ w.heap[b]? = some (.cells cs 103 z))
theorem lstS_nil (w : World) : LstS w none 0 [] := ⟨secsIn_nil _ _, Nat.le_refl _, .inl ⟨rfl, rfl⟩⟩
theorem OwnS.lst {w : World} {base : Nat} {v : Value} {l : List RS} (h : OwnS w base v l) : ∃ a c, v = .slice a l.length c ∧ LstS w a c l := by
  rcases h.2 with ⟨rfl, e⟩ | ⟨g, cap, cur, rfl, _, hg, h3, h4, _, ht⟩
  · have : l = [] := List.eq_nil_of_length_eq_zero e
    subst this
    exact ⟨none, 0, rfl, lstS_nil _⟩
  · refine ⟨_, _, rfl, fun i hi => ⟨g, 0, rfl, fun j hj => ?_⟩, h3, .inr ⟨g, 0, _, _, rfl, hg⟩⟩
    rw [Nat.zero_add, ← secC_at l i j hi hj, ← ht, List.getElem?_take_of_lt (by omega), Array.getElem?_toList]
    simp [World.cell?, hg]
/-- It stays where its block stays. -/
theorem LstS.stay {w w' : World} {a : Option Addr} {c : Nat} {l : List RS} (h : LstS w a c l) (hk : ∀ (k : Nat) (cs : Array Value) (z : Nat × Nat), w.heap[k]? = some (.cells cs 103 z) → w'.heap[k]? = w.heap[k]?) : LstS w' a c l := by
  obtain ⟨h1, h2, h4⟩ := h
  rcases h4 with ⟨rfl, rfl⟩ | ⟨b, o, cs, z, rfl, h4⟩
  · obtain rfl := secs_none h1
    exact lstS_nil _
  · have hbl := hk b cs z h4
    refine ⟨fun i hi => ?_, h2, .inr ⟨b, o, cs, z, rfl, hbl.trans h4⟩⟩
    obtain ⟨b', o', e', k1⟩ := h1 i hi
    cases e'
    exact ⟨b, o, rfl, fun j hj => (cell_block hbl).trans (k1 j hj)⟩
theorem LstS.on {w w' : World} {a : Option Addr} {c : Nat} {l : List RS} (h : LstS w a c l) (hb : Below w.heap.size w w') : LstS w' a c l := h.stay fun k _ _ hk => hb.block k (blk_lt hk)
/-- .. while the device is worked on. -/
theorem LstS.fd {w w' : World} {p aa bb K : Nat} {d : Dev} {a : Option Addr} {c : Nat} {l : List RS} (h : LstS w a c l) (hd : DevIn w p aa bb d K) (hf : Fd p aa bb w w') : LstS w' a c l :=
  h.stay fun k cs z hk => hf.block k (blk_lt hk)
    (fun e => by rw [e, hd.blk] at hk; simp only [Option.some.injEq, Obj.cells.injEq] at hk; exact absurd hk.2.1 (by decide))
    (fun e => by obtain ⟨es, cl, hm⟩ := hd.mapA; rw [e, hm] at hk; cases hk)
    (fun e => by obtain ⟨es, cl, hm⟩ := hd.mapB; rw [e, hm] at hk; cases hk)
theorem SecsIn.take {w : World} {a : Option Addr} {l : List RS} (h : SecsIn w a l) (k : Nat) : SecsIn w a (l.take k) := by
  intro i hi
  have hi' : i < l.length := by rw [List.length_take] at hi; omega
  obtain ⟨b, o, e, h1⟩ := h i hi'
  exact ⟨b, o, e, by rw [List.getElem_take]; exact h1⟩
theorem SecsIn.drop {w : World} {b o : Nat} {l : List RS} (h : SecsIn w (some ⟨b, o, none⟩) l) (k : Nat) : SecsIn w (some ⟨b, o + k * 5, none⟩) (l.drop k) := by
  intro i hi
  have hi' : k + i < l.length := by rw [List.length_drop] at hi; omega
  obtain ⟨b', o', e, h1⟩ := h (k + i) hi'
  cases e
  refine ⟨b, o + k * 5, rfl, ?_⟩
  rw [List.getElem_drop, show o + k * 5 + i * 5 = o + (k + i) * 5 by omega]
  exact h1
/-- One sector, in a block of its own. -/
theorem sec_one {w : World} {b : Nat} {x : RS} {t : TypeId} {z : Nat × Nat} (h : w.heap[b]? = some (.cells (rsC x).toArray t z)) : SecsIn w (some ⟨b, 0, none⟩) [x] := by
  intro i hi
  simp at hi
  subst hi
  refine ⟨b, 0, rfl, fun j hj => ?_⟩
  simp [World.cell?, h]
/-- A device of the document's, as a value and as a block. -/
def rdC (x : RD) (a : Option Addr) (n c : Nat) : Array Value := #[.int .i64 x.r, .int .i64 x.s, .slice a n c, .bool x.crashed, .bool x.armed, .int .i64 x.left]
def rdV (x : RD) (a : Option Addr) (c : Nat) : Value := .agg (rdC x a x.l.length c)
theorem infoRD : (Tryz.prog.info? 32).map (·.size) = some 6 := by kernel_rfl
theorem infoRS : (Tryz.prog.info? 103).map (·.size) = some 5 := by kernel_rfl
/-- Structs of the document's, loaded and stored whole. -/
theorem load_rd {w : World} {b : Nat} {cs : Array Value} (h : w.heap[b]? = some (.cells cs 32 (0, 0))) (hc : cs.size = 6) : (Instr.loadAt 32 (.pointer (some ⟨b, 0, none⟩))).run Tryz.prog w = .ok (.agg cs) w := by
  simp only [Instr.loadAt, Instr.sureAddr, Sem.run_bind, Sem.run_pure, Result.andThen]
  exact run_loadVar_row w b 32 32 _ (0, 0) _ h Tryz.underlying32 rfl (by rw [hc]; exact infoRD)
theorem loadVar_rd {w : World} {b : Nat} {cs : Array Value} (h : w.heap[b]? = some (.cells cs 32 (0, 0))) (hc : cs.size = 6) : (loadVar 32 ⟨b, 0, none⟩).run Tryz.prog w = .ok (.agg cs) w :=
  run_loadVar_row w b 32 32 _ (0, 0) _ h Tryz.underlying32 rfl (by rw [hc]; exact infoRD)
theorem store_rd {w : World} {b : Nat} {old cs : Array Value} (h : w.heap[b]? = some (.cells old 32 (0, 0))) (ho : old.size = 6) (hc : cs.size = 6) (h1 : cs.all (·.oneCell') = true) : (Instr.storeAt 32 (.pointer (some ⟨b, 0, none⟩)) (.agg cs)).run Tryz.prog w = .ok () (w.setRow b cs) := by
  simp only [Instr.storeAt, Instr.sureAddr, Sem.run_bind, Sem.run_pure, Result.andThen]
  exact run_storeVar_row w b 32 32 _ _ h (by rw [hc]; exact infoRD) (ho.trans hc.symm) h1
theorem load_rs {w : World} {b : Nat} {cs : Array Value} (h : w.heap[b]? = some (.cells cs 103 (0, 0))) (hc : cs.size = 5) : (Instr.loadAt 103 (.pointer (some ⟨b, 0, none⟩))).run Tryz.prog w = .ok (.agg cs) w := by
  simp only [Instr.loadAt, Instr.sureAddr, Sem.run_bind, Sem.run_pure, Result.andThen]
  exact run_loadVar_row w b 103 103 _ (0, 0) _ h Tryz.underlying103 rfl (by rw [hc]; exact infoRS)
theorem store_rs {w : World} {b : Nat} {old cs : Array Value} (h : w.heap[b]? = some (.cells old 103 (0, 0))) (ho : old.size = 5) (hc : cs.size = 5) (h1 : cs.all (·.oneCell') = true) : (Instr.storeAt 103 (.pointer (some ⟨b, 0, none⟩)) (.agg cs)).run Tryz.prog w = .ok () (w.setRow b cs) := by
  simp only [Instr.storeAt, Instr.sureAddr, Sem.run_bind, Sem.run_pure, Result.andThen]
  exact run_storeVar_row w b 103 103 _ _ h (by rw [hc]; exact infoRS) (ho.trans hc.symm) h1
/-- A device handed back, with a number or alone. -/
theorem results_rd {fn : Func} {p q : Tmp} (h : fn.results = #[.cell p 32, .tmp q]) (tmps : Array Value) (w : World) (b : Nat) (cs : Array Value) (v : Value) (hp : tmps.getD p undef = .pointer (some ⟨b, 0, none⟩)) (hq : tmps.getD q undef = v) (hb : w.heap[b]? = some (.cells cs 32 (0, 0))) (hc : cs.size = 6) :
    (results fn tmps).run Tryz.prog w = .ok (.tuple #[.agg cs, v]) w := by
  have hl := loadVar_rd hb hc
  simp only [results, h]
  rw [Array.getD_eq_getD_getElem?] at hp hq
  simp [Result.andThen, hp, hq, asAddr, hl]
theorem results_rd1 {fn : Func} {p : Tmp} (h : fn.results = #[.cell p 32]) (tmps : Array Value) (w : World) (b : Nat) (cs : Array Value) (hp : tmps.getD p undef = .pointer (some ⟨b, 0, none⟩)) (hb : w.heap[b]? = some (.cells cs 32 (0, 0))) (hc : cs.size = 6) :
    (results fn tmps).run Tryz.prog w = .ok (.agg cs) w := by
  have hl := loadVar_rd hb hc
  simp only [results, h]
  rw [Array.getD_eq_getD_getElem?] at hp
  simp [hp, asAddr, hl]
theorem alloc_at (w : World) (o : Obj) : (w.alloc o).heap[w.heap.size]? = some o := World.alloc_heap_new' w o
theorem alloc_old {w : World} {k : Nat} {o o' : Obj} (h : w.heap[k]? = some o') : (w.alloc o).heap[k]? = some o' := ((below_alloc w o).block k (blk_lt h)).trans h
theorem below_set {N b o : Nat} {w0 w : World} (h : Below N w0 w) (hb : N ≤ b) (v : Value) : Below N w0 (w.setCell ⟨b, o, none⟩ v) := h.setCell hb v
end Go.Proofs.YthaihallfjjnpaaGreatDoor

namespace Go.Proofs.YthaihallfjjnpaaGreatDoor
open Go.RowKit Go.Sort Go.Maps

set_option maxRecDepth 100000 in
set_option maxHeartbeats 1000000 in
theorem rnew_ (r s : Int) (w : World) (h : 1 ≤ r ∧ r ≤ 16 ∧ 1 ≤ s ∧ s ≤ 16384) :
    Calls Tryz.prog 5 #[.int .i64 r, .int .i64 s] w fun e w' => e = .returned (.tuple #[rdV (newR r s) none 0, .int .i64 0]) ∧ Below w.heap.size w w' := by
  have h1 : decide (r < 1) = false := decide_eq_false (by omega)
  have h2 : decide (r > 16) = false := decide_eq_false (by omega)
  have h3 : decide (s < 1) = false := decide_eq_false (by omega)
  have h4 : decide (s > 16384) = false := decide_eq_false (by omega)
  clear h
  unfold rdV rdC newR
  go_enter Tryz.func5, Tryz.ntmps5
  go_wp2_with fail
  exact bodyPost_ret (results_rd rfl _ _ w.heap.size _ _ rfl rfl (alloc_at w _) rfl) rfl ⟨rfl, below_alloc w _⟩
set_option maxHeartbeats 1000000 in
theorem rhas_ (r s lf : Int) (v : Value) (cr ar : Bool) (g j : Int) (w : World) :
    Calls Tryz.prog 41 #[.agg #[.int .i64 r, .int .i64 s, v, .bool cr, .bool ar, .int .i64 lf], .int .i64 g, .int .i64 j] w fun e w' => e = .returned (.bool (decide (0 ≤ g ∧ g < r ∧ 0 ≤ j ∧ j < s))) ∧ Below w.heap.size w w' := by
  have HB := Lib.hid (below_alloc w (.cells #[.int .i64 r, .int .i64 s, v, .bool cr, .bool ar, .int .i64 lf] 32))
  by_cases h1 : 0 ≤ g
  · have k1 : decide (g ≥ 0) = true := decide_eq_true h1
    by_cases h2 : g < r
    · have k2 : decide (g < r) = true := decide_eq_true h2
      by_cases h3 : 0 ≤ j
      · have k3 : decide (j ≥ 0) = true := decide_eq_true h3
        by_cases h4 : j < s
        · have k4 : decide (j < s) = true := decide_eq_true h4
          rw [decide_eq_true ⟨h1, h2, h3, h4⟩]
          go_enter Tryz.func41, Tryz.ntmps41
          go_wp2_with fail
          go_ret
          exact ⟨rfl, HB.out⟩
        · have k4 : decide (j < s) = false := decide_eq_false h4
          rw [decide_eq_false (fun e => h4 e.2.2.2)]
          go_enter Tryz.func41, Tryz.ntmps41
          go_wp2_with fail
          go_ret
          exact ⟨rfl, HB.out⟩
      · have k3 : decide (j ≥ 0) = false := decide_eq_false h3
        rw [decide_eq_false (fun e => h3 e.2.2.1)]
        go_enter Tryz.func41, Tryz.ntmps41
        go_wp2_with fail
        go_ret
        exact ⟨rfl, HB.out⟩
    · have k2 : decide (g < r) = false := decide_eq_false h2
      rw [decide_eq_false (fun e => h2 e.2.1)]
      go_enter Tryz.func41, Tryz.ntmps41
      go_wp2_with fail
      go_ret
      exact ⟨rfl, HB.out⟩
  · have k1 : decide (g ≥ 0) = false := decide_eq_false h1
    rw [decide_eq_false (fun e => h1 e.1)]
    go_enter Tryz.func41, Tryz.ntmps41
    go_wp2_with fail
    go_ret
    exact ⟨rfl, HB.out⟩
theorem byteCells_bs {xs : List Nat} (h : ∀ x ∈ xs, x < 256) : Lib.byteCells (bs xs).data.toList = vals xs := by
  unfold Lib.byteCells bs vals
  simp only [List.map_map]
  refine List.map_congr_left fun x hx => ?_
  have := h x hx
  simp [Nat.mod_eq_of_lt this]
set_option maxRecDepth 100000 in
theorem copy_bs {w : World} {g : Nat} {xs : List Nat} (ty : TypeId) (hg : w.heap[g]? = some (.cells (vals zeroC).toArray 5 (0, 0))) (hx : ∀ x ∈ xs, x < 256) (hl : xs.length ≤ 64) :
    (Builtin.copy_ #[37, 9] ty #[.slice (some ⟨g, 0, none⟩) 64 64, .string (bs xs)]).run Tryz.prog w = .ok (goInt xs.length) (w.setRow g (vals (fillC xs)).toArray) := by
  have := Lib.run_copy_row_string (P := Tryz.prog) w 37 9 ty 5 g 0 64 64 (bs xs) _ 5 Tryz.underlying37 sizeB hg (by rw [bs_size]; exact hl) (by rw [bs_size, List.size_toArray, vals_len, zero_len]; omega)
  rw [this, byteCells_bs hx, bs_size, ← fill_splice xs]
  congr 2
  simp [splice, vals_len]
set_option maxRecDepth 100000 in
set_option maxHeartbeats 1000000 in
theorem rfilled_ (xs : List Nat) (w : World) (hx : ∀ x ∈ xs, x < 256) (hl : xs.length ≤ 64) :
    Calls Tryz.prog 43 #[.string (bs xs)] w fun e w' => e = .returned (.string (bs (fillC xs))) ∧ Below w.heap.size w w' := by
  obtain ⟨i0, hi0, hz0, hz1, hz2⟩ := info_parts infoB
  have HC : Hid (∀ (W : World) (ty : TypeId), W.heap[w.heap.size]? = some (.cells (vals zeroC).toArray 5 (0, 0)) → (Builtin.copy_ #[37, 9] ty #[.slice (some ⟨w.heap.size, 0, none⟩) 64 64, .string (bs xs)]).run Tryz.prog W = .ok (goInt xs.length) (W.setRow w.heap.size (vals (fillC xs)).toArray)) := fun W ty hW => copy_bs ty hW hx hl
  have HF := Lib.hid (fill_len hl)
  generalize bs xs = sx at *
  generalize xs.length = nx at *
  clear hx hl
  go_enter Tryz.func43, Tryz.ntmps43
  go_wp2_with (first
    | (at_make; refine wpList_make_full _ rfl _ _ 37 rfl w.heap.size 5 i0 (.int .u8 0) 1 Tryz.underlying37 hi0 hz0 hz1 .i64 .i64 _ _ 64 rfl rfl rfl rfl (by rw [hz2]; omega) (by unfold maxLen; omega) (Nat.le_refl _) ?_
       intro W3 hown3 hgrow3
       have hb3 := Lib.hid (made_block hown3)
       have hB3 : Hid (Below w.heap.size w W3) := below_grown_none hgrow3
       have hcp := HC.out W3 3 hb3.out
       have hg4 := Lib.hid (setRow_heap W3 w.heap.size _ (vals (fillC xs)).toArray 5 (0, 0) hb3.out)
       have hB4 := Lib.hid (below_setRow hB3.out (Nat.le_refl _) (vals (fillC xs)).toArray)
       have hcv : (convert 37 9 (.slice (some ⟨w.heap.size, 0, none⟩) 64 64)).run Tryz.prog (W3.setRow w.heap.size (vals (fillC xs)).toArray) = .ok (.string (bs (fillC xs))) (W3.setRow w.heap.size (vals (fillC xs)).toArray) := conv_ _ _ 64 64 _ HF.out.symm (ct_bytes 5 hg4.out)
       clear hown3 hgrow3 hb3 hB3
       generalize W3.setRow w.heap.size (vals (fillC xs)).toArray = W4 at *)
    | fail)
  go_ret
  exact ⟨rfl, hB4.out⟩
end Go.Proofs.YthaihallfjjnpaaGreatDoor

namespace Go.Proofs.YthaihallfjjnpaaGreatDoor
open Go.RowKit Go.Sort Go.Maps

/-- Where a sector stands in the list, or where it belongs. -/
structure FindIs (l : List RS) (k : Pl) (i : Nat) (is : Bool) : Prop where
  le : i ≤ l.length
  lt : ∀ x ∈ l.take i, ltP x.key k
  ge : ∀ h : i < l.length, ¬ ltP l[i].key k
  is : is = true ↔ ∃ h : i < l.length, l[i].key = k
set_option maxRecDepth 100000 in
set_option maxHeartbeats 4000000 in
theorem rfind_ (r s lf : Int) (cr ar : Bool) (a : Option Addr) (L c : Nat) (l : List RS) (g j : Int) (w : World) (hL : L = l.length) (h : SecsIn w a l) (hl : L ≤ 1000000) :
    Calls Tryz.prog 42 #[.agg #[.int .i64 r, .int .i64 s, .slice a L c, .bool cr, .bool ar, .int .i64 lf], .int .i64 g, .int .i64 j] w fun e w' => (∃ (i : Nat) (is : Bool), e = .returned (.tuple #[.int .i64 (i : Int), .bool is]) ∧ FindIs l (g, j) i is) ∧ Below w.heap.size w w' := by
  obtain ⟨W, hW⟩ : ∃ W, W = w.alloc (.cells #[.int .i64 r, .int .i64 s, .slice a L c, .bool cr, .bool ar, .int .i64 lf] 32) := ⟨_, rfl⟩
  have hB : Below w.heap.size w W := by rw [hW]; exact below_alloc w _
  have hg : W.heap[w.heap.size]? = some (.cells #[.int .i64 r, .int .i64 s, .slice a L c, .bool cr, .bool ar, .int .i64 lf] 32 (0, 0)) := by rw [hW]; exact alloc_at w _
  have c2 : W.cell? ⟨w.heap.size, 2, none⟩ = some (.slice a L c) := cell_of hg rfl
  have HI := Lib.hid (h.on hB)
  have HL := Lib.hid hL
  have HB := Lib.hid hB
  have HW := Lib.hid hW
  clear h hL hB hg hW
  go_enter Tryz.func42, Tryz.ntmps42
  go_wp2_with fail
  rw [← HW.out]
  clear HW
  go_loopw [8] (fun iv wr => ∃ i : Nat, i ≤ L ∧ iv = .int .i64 i ∧ wr = W ∧ Hid (∀ x ∈ l.take i, ltP x.key (g, j))) (fun iv _ => L - (intOf iv).toNat)
  case atStart => exact ⟨0, Nat.zero_le _, rfl, rfl, fun y hy => by simp at hy⟩
  case round =>
    obtain ⟨i, hi, rfl, rfl, HN⟩ := hrel
    by_cases hlt : i < L
    · have hlt2 : (i : Int) < (L : Int) := by omega
      have hi2 : i < l.length := by rw [← HL.out]; exact hlt
      obtain ⟨b, o, rfl, hs⟩ := HI.out i hi2
      obtain ⟨q0, q1, _, _, _⟩ := hs.cells
      clear hs
      have HS1 : Hid (ltP (l[i]).key (g, j) → ∀ x ∈ l.take (i + 1), ltP x.key (g, j)) := by
        intro hx x hm
        rw [List.take_succ_eq_append_getElem hi2] at hm
        rcases List.mem_append.1 hm with hm | hm
        · exact HN.out x hm
        · simp at hm; subst hm; exact hx
      have HE1 : Hid (∀ is : Bool, ¬ ltP (l[i]).key (g, j) → (is = true ↔ (l[i]).key = (g, j)) → FindIs l (g, j) i is) := fun is hn his => ⟨by omega, HN.out, fun _ => hn, his.trans ⟨fun e => ⟨hi2, e⟩, fun ⟨_, e⟩ => e⟩⟩
      generalize hkk : (l[i]).key = kk at *
      obtain ⟨x1, x2⟩ := kk
      simp only at q0 q1
      clear hkk HN HI
      by_cases h1 : x1 < g
      · have k1 : decide (x1 < g) = true := decide_eq_true h1
        have HN1 := Lib.hid (HS1.out (.inl h1))
        clear HS1 HE1
        go_wp2_with fail
        go_roundw
        case rel => exact ⟨i + 1, by omega, by go_num, trivial, HN1⟩
        case measure => simp [intOf]; omega
      · have k1 : decide (x1 < g) = false := decide_eq_false h1
        by_cases h2 : x1 = g
        · have k2 : (x1 == g) = true := by simpa using h2
          by_cases h3 : x2 < j
          · have k3 : decide (x2 < j) = true := decide_eq_true h3
            have HN1 := Lib.hid (HS1.out (.inr ⟨h2, h3⟩))
            clear HS1 HE1 h2
            go_wp2_with fail
            go_roundw
            case rel => exact ⟨i + 1, by omega, by go_num, trivial, HN1⟩
            case measure => simp [intOf]; omega
          · have k3 : decide (x2 < j) = false := decide_eq_false h3
            have HF : Hid (FindIs l (g, j) i (x2 == j)) := HE1.out _ (by unfold ltP; simp only; omega) (by simp only [beq_iff_eq, Prod.mk.injEq]; omega)
            clear HS1 HE1 h2
            generalize hbb : (x2 == j) = bb at *
            go_wp2_with fail
            go_quiet (fail)
            have HB1 := Lib.hid (below_drewN HB.out nq)
            go_wp2_with fail
            go_ret2
            exact ⟨⟨i, bb, rfl, HF.out⟩, HB1.out⟩
        · have k2 : (x1 == g) = false := by simpa using h2
          have HF : Hid (FindIs l (g, j) i false) := HE1.out _ (by unfold ltP; simp only; omega) (by simp only [Bool.false_eq_true, false_iff, Prod.mk.injEq]; omega)
          clear HS1 HE1 h2
          go_wp2_with fail
          go_quiet (fail)
          have HB1 := Lib.hid (below_drewN HB.out nq)
          go_wp2_with fail
          go_ret2
          exact ⟨⟨i, false, rfl, HF.out⟩, HB1.out⟩
    · obtain rfl : i = L := by omega
      have HF : Hid (FindIs l (g, j) i false) := ⟨by have := HL.out; omega, HN.out, fun h => by have := HL.out; omega, by simp only [Bool.false_eq_true, false_iff, not_exists]; intro h; have := HL.out; omega⟩
      go_wp2_with fail
      go_quiet (fail)
      have HB1 := Lib.hid (below_drewN HB.out nq)
      go_wp2_with fail
      go_ret2
      exact ⟨⟨i, false, rfl, HF.out⟩, HB1.out⟩
end Go.Proofs.YthaihallfjjnpaaGreatDoor

namespace Go.Proofs.YthaihallfjjnpaaGreatDoor
open Go.RowKit Go.Sort Go.Maps

theorem take_drop_at {l : List RS} {i : Nat} (h : i < l.length) : l = l.take i ++ l[i] :: l.drop (i + 1) := by
  rw [← List.drop_eq_getElem_cons h, List.take_append_drop]
theorem find_yes {l : List RS} {k : Pl} {i : Nat} (h : FindIs l k i true) : ∃ hi : i < l.length, l[i].key = k ∧ findR l k = some l[i] := by
  obtain ⟨hi, e⟩ := h.is.1 rfl
  refine ⟨hi, e, ?_⟩
  have := findR_split (l.drop i) k h.lt
  rw [List.take_append_drop, List.drop_eq_getElem_cons hi, findR_cons, if_pos e] at this
  exact this
theorem find_gt {l : List RS} {k : Pl} {i : Nat} (h : FindIs l k i false) (hi : i < l.length) : ltP k l[i].key := by
  rcases ltP_total k l[i].key with e | e | e
  · exact e
  · exact absurd (h.is.2 ⟨hi, e.symm⟩) (by simp)
  · exact absurd e (h.ge hi)
theorem find_no {l : List RS} {k : Pl} {i : Nat} (h : FindIs l k i false) (hs : SrtR l) : findR l k = none := by
  have := findR_split (l.drop i) k h.lt
  rw [List.take_append_drop] at this
  rw [this]
  refine findR_none fun x hx => ?_
  have hi : i < l.length := by
    rcases Nat.lt_or_ge i l.length with hh | hh
    · exact hh
    · rw [List.drop_eq_nil_of_le hh] at hx; cases hx
  have hg := find_gt h hi
  rw [List.drop_eq_getElem_cons hi] at hx
  rcases List.mem_cons.1 hx with rfl | hx
  · exact Ne.symm (ltP_ne hg)
  · have hp := hs
    rw [take_drop_at hi] at hp
    have := (List.pairwise_cons.1 (List.pairwise_append.1 hp).2.1).1 x hx
    exact Ne.symm (ltP_ne (ltP_trans hg this))
theorem put_yes {l : List RS} {k : Pl} {i : Nat} (h : FindIs l k i true) (hi : i < l.length) (c : Ct) : putR l k c = l.take i ++ [⟨k, l[i].safe, c, true⟩] ++ l.drop (i + 1) := by
  obtain ⟨_, e⟩ := h.is.1 rfl
  have := putR_split (l.drop i) k c h.lt
  rw [List.take_append_drop] at this
  rw [this, List.drop_eq_getElem_cons hi]
  unfold putR
  rw [if_neg (by rw [e]; exact ltP_irrefl k), if_pos e.symm]
  simp
theorem put_no {l : List RS} {k : Pl} {i : Nat} (h : FindIs l k i false) (c : Ct) : putR l k c = l.take i ++ [⟨k, zeroC, c, true⟩] ++ l.drop i := by
  have := putR_split (l.drop i) k c h.lt
  rw [List.take_append_drop] at this
  rw [this]
  rcases Nat.lt_or_ge i l.length with hi | hi
  · rw [List.drop_eq_getElem_cons hi]
    unfold putR
    rw [if_pos (find_gt h hi)]
    simp
  · rw [List.drop_eq_nil_of_le hi]
    simp [putR]
/-- The six cells of a device of the document's. -/
theorem rd_cells {w : World} {b : Nat} {r s lf : Int} {v : Value} {cr ar : Bool} {t : TypeId} {z : Nat × Nat} (h : w.heap[b]? = some (.cells #[.int .i64 r, .int .i64 s, v, .bool cr, .bool ar, .int .i64 lf] t z)) :
    w.cell? ⟨b, 0, none⟩ = some (.int .i64 r) ∧ w.cell? ⟨b, 1, none⟩ = some (.int .i64 s) ∧ w.cell? ⟨b, 2, none⟩ = some v ∧ w.cell? ⟨b, 3, none⟩ = some (.bool cr) ∧ w.cell? ⟨b, 4, none⟩ = some (.bool ar) ∧ w.cell? ⟨b, 5, none⟩ = some (.int .i64 lf) :=
  ⟨cell_of h rfl, cell_of h rfl, cell_of h rfl, cell_of h rfl, cell_of h rfl, cell_of h rfl⟩
def hasR (r s : Int) (k : Pl) : Bool := decide (0 ≤ k.1 ∧ k.1 < r ∧ 0 ≤ k.2 ∧ k.2 < s)
/-- What the document's Read answers. -/
def ReadTo (w : World) (l : List RS) (k : Pl) (hb cr : Bool) (e : Ending) (w' : World) : Prop :=
  e = .returned (.tuple #[.string (if hb = false then bs [] else if cr = true then bs [] else bs (readR l k)), .int .i64 (if hb = false then 1 else if cr = true then 60 else 0)]) ∧ Below w.heap.size w w'
set_option maxRecDepth 100000 in
set_option maxHeartbeats 4000000 in
theorem rread_ (r s lf : Int) (cr ar : Bool) (a : Option Addr) (L c : Nat) (l : List RS) (k : Pl) (w : World) (hL : L = l.length) (h : SecsIn w a l) (hl : L ≤ 1000000) (hs : SrtR l) :
    Calls Tryz.prog 52 #[.agg #[.int .i64 r, .int .i64 s, .slice a L c, .bool cr, .bool ar, .int .i64 lf], .int .i64 k.1, .int .i64 k.2] w (ReadTo w l k (hasR r s k) cr) := by
  obtain ⟨g, j⟩ := k
  have HH : Hid (∀ V : World, Calls Tryz.prog 41 #[.agg #[.int .i64 r, .int .i64 s, .slice a L c, .bool cr, .bool ar, .int .i64 lf], .int .i64 g, .int .i64 j] V fun e w' => e = .returned (.bool (hasR r s (g, j))) ∧ Below V.heap.size V w') := fun V => rhas_ r s lf _ cr ar g j V
  have HF : Hid (∀ V : World, Below w.heap.size w V → Calls Tryz.prog 42 #[.agg #[.int .i64 r, .int .i64 s, .slice a L c, .bool cr, .bool ar, .int .i64 lf], .int .i64 g, .int .i64 j] V fun e w' => (∃ (i : Nat) (is : Bool), e = .returned (.tuple #[.int .i64 (i : Int), .bool is]) ∧ FindIs l (g, j) i is) ∧ Below V.heap.size V w') := fun V hV => rfind_ r s lf cr ar a L c l g j V hL (h.on hV) hl
  have HI := Lib.hid h
  have HL := Lib.hid hL
  have HS := Lib.hid hs
  have HZ : Hid (∀ V : World, Calls Tryz.prog 43 #[.string ⟨#[]⟩] V fun e w' => e = .returned (.string (bs zeroC)) ∧ Below V.heap.size V w') := fun V => rfilled_ [] V (fun x hx => by simp at hx) (by simp)
  obtain ⟨W, hW⟩ : ∃ W, W = w.alloc (.cells #[.int .i64 r, .int .i64 s, .slice a L c, .bool cr, .bool ar, .int .i64 lf] 32) := ⟨_, rfl⟩
  have HB : Hid (Below w.heap.size w W) := by rw [hW]; exact below_alloc w _
  have HG : Hid (W.heap[w.heap.size]? = some (.cells #[.int .i64 r, .int .i64 s, .slice a L c, .bool cr, .bool ar, .int .i64 lf] 32 (0, 0))) := by rw [hW]; exact alloc_at w _
  have HW := Lib.hid hW
  clear h hL hs hW
  unfold ReadTo
  dsimp only
  generalize hasR r s (g, j) = hb at *
  go_enter Tryz.func52, Tryz.ntmps52
  go_wp2_with fail
  rw [← HW.out]
  clear HW
  refine (HH.out W).mono ?_
  rintro e w1 ⟨rfl, hb1⟩
  have HB1 := Lib.hid (below_step HB.out hb1)
  have HG1 := Lib.hid ((hb1.block _ (blk_lt HG.out)).trans HG.out)
  clear hb1 HB HG HH
  obtain ⟨c0, c1, c2, c3, c4, c5⟩ := rd_cells HG1.out
  cases hb
  · go_wp2_with fail
    go_ret2
    exact ⟨rfl, HB1.out⟩
  · cases cr
    · go_wp2_with fail
      refine (HF.out w1 HB1.out).mono ?_
      rintro e w2 ⟨⟨i, is, rfl, hfi⟩, hb2⟩
      have HB2 := Lib.hid (below_step HB1.out hb2)
      have HG2 := Lib.hid ((hb2.block _ (blk_lt HG1.out)).trans HG1.out)
      have HFI := Lib.hid hfi
      clear hb2 hfi HB1 HG1 HF c0 c1 c2 c3 c4 c5
      obtain ⟨c0, c1, c2, c3, c4, c5⟩ := rd_cells HG2.out
      cases is
      · have hrd : readR l (g, j) = zeroC := by unfold readR; rw [find_no HFI.out HS.out]
        have HRD : Hid (bs (readR l (g, j)) = bs zeroC) := by rw [hrd]; rfl
        clear hrd
        generalize bs zeroC = z at *
        go_wp2_with fail
        refine (HZ.out w2).mono ?_
        rintro e w3 ⟨rfl, hb3⟩
        have HB3 := Lib.hid (below_step HB2.out hb3)
        clear hb3
        go_wp2_with fail
        go_ret2
        exact ⟨by simp [HRD.out], HB3.out⟩
      · obtain ⟨hi, hk, hfr⟩ := find_yes HFI.out
        obtain ⟨b, o, rfl, hsec⟩ := (HI.out.on HB2.out) i hi
        obtain ⟨_, _, q2, q3, q4⟩ := hsec.cells
        have hiL : (i : Int) < (L : Int) := by rw [HL.out]; omega
        have hrd : readR l (g, j) = if (l[i]).pend = true then (l[i]).now else (l[i]).safe := by unfold readR; rw [hfr]
        clear hsec hfr hk
        generalize (l[i]).pend = pe at *
        generalize (l[i]).now = no at *
        generalize (l[i]).safe = sa at *
        cases pe
        · have HRD : Hid (bs (readR l (g, j)) = bs sa) := by rw [hrd]; rfl
          clear hrd
          generalize bs sa = sa' at *
          go_wp2_with fail
          go_ret2
          exact ⟨by simp [HRD.out], HB2.out⟩
        · have HRD : Hid (bs (readR l (g, j)) = bs no) := by rw [hrd]; rfl
          clear hrd
          generalize bs no = no' at *
          go_wp2_with fail
          go_ret2
          exact ⟨by simp [HRD.out], HB2.out⟩
    · go_wp2_with fail
      go_ret2
      exact ⟨rfl, HB1.out⟩
end Go.Proofs.YthaihallfjjnpaaGreatDoor
