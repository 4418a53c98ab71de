/- Plain facts: the document's list of versions against keys with chains. No program is in it. -/
import Derived.Test.YtagamkahfiackaaGreatDoorJ7
namespace Go.Proofs.YtagamkahfiackaaGreatDoor
open Go.Lib

structure RV where
  k : ByteArray
  v : PV
def eqk (a b : ByteArray) : Bool := a.toList == b.toList
theorem eqk_iff {a b : ByteArray} : eqk a b = true ↔ a = b := by
  unfold eqk
  rw [beq_iff_eq]
  exact ⟨fun h => toList_inj h, fun h => by rw [h]⟩
theorem eqk_self (a : ByteArray) : eqk a a = true := eqk_iff.2 rfl
theorem eqk_false {a b : ByteArray} (h : a ≠ b) : eqk a b = false := by
  cases e : eqk a b
  · rfl
  · exact absurd (eqk_iff.1 e) h
def verR (k : ByteArray) (R : List RV) : List PV := (R.filter fun x => eqk x.k k).map (·.v)
theorem ver_append (k : ByteArray) (R S : List RV) : verR k (R ++ S) = verR k R ++ verR k S := by simp [verR]
theorem mem_ver {k : ByteArray} {R : List RV} {v : PV} : v ∈ verR k R ↔ ∃ x ∈ R, x.k = k ∧ x.v = v := by
  unfold verR
  rw [List.mem_map]
  constructor
  · rintro ⟨x, hx, rfl⟩
    exact ⟨x, (List.mem_filter.1 hx).1, eqk_iff.1 (List.mem_filter.1 hx).2, rfl⟩
  · rintro ⟨x, hx, hk, rfl⟩
    exact ⟨x, List.mem_filter.2 ⟨hx, eqk_iff.2 hk⟩, rfl⟩
/-- The list tells the same as the keys. -/
def RelR (R : List RV) (m : List Ct) : Prop := ∀ k, chM k m = verR k R
theorem rel_nil : RelR [] [] := fun _ => rfl
theorem RelR.asc {R : List RV} {m : List Ct} (h : RelR R m) (hm : OkM m) (k : ByteArray) : AscC (verR k R) := by rw [← h k]; exact hm.ch k
theorem RelR.len : ∀ {m : List Ct} {R : List RV}, OkM m → RelR R m → R.length = nVer m
  | [], R, _, h => by
    cases R with
    | nil => rfl
    | cons x R =>
      have := h x.k
      have hx : x.v ∈ verR x.k (x :: R) := mem_ver.2 ⟨x, by simp, rfl, rfl⟩
      rw [← this] at hx
      cases hx
  | (k, c) :: m, R, hm, h => by
    have hsr := List.pairwise_cons.1 hm.srt
    have hm' : OkM m := ⟨hsr.2, fun y hy => hm.asc y (by simp [hy]), fun y hy => hm.ne y (by simp [hy])⟩
    have e0 : chM k ((k, c) :: m) = c := by
      unfold chM
      rw [mem_get hm.srt (x := (k, c)) (by simp)]; rfl
    have hk : chM k m = [] := by
      unfold chM
      cases e : get k m with
      | none => rfl
      | some u => exact absurd (hsr.1 _ (get_mem e)) (by show ¬ (ltb k k = true); rw [ltb_irrefl]; simp)
    have ho : ∀ q, q ≠ k → chM q m = chM q ((k, c) :: m) := fun q hq => by
      unfold chM
      have : get q ((k, c) :: m) = get q m := by
        unfold get
        rw [List.find?_cons]
        rcases ltb_cases k q with hc | hc | hc
        · simp [hc]
        · exact absurd hc.symm hq
        · simp [hc]
      rw [this]
    have hrec := RelR.len (R := R.filter fun x => !(eqk x.k k)) hm' (fun q => by
      unfold verR
      rw [List.filter_filter]
      by_cases hq : q = k
      · subst hq
        rw [hk, List.filter_eq_nil_iff.2 fun x _ => by cases eqk x.k q <;> simp]; rfl
      · rw [ho q hq, h q]
        unfold verR
        congr 1
        refine List.filter_congr fun x _ => ?_
        cases e : eqk x.k q with
        | false => rfl
        | true => rw [eqk_false (fun e2 => hq ((eqk_iff.1 e).symm.trans e2))]; rfl)
    rw [nVer_cons, ← hrec]
    have e1 := h k
    rw [e0] at e1
    show R.length = c.length + _
    rw [e1]
    unfold verR
    rw [List.length_map]
    clear hrec ho hk e0 e1 h hm hm' hsr
    induction R with
    | nil => rfl
    | cons x R ih =>
      cases e : eqk x.k k <;> simp [e] <;> omega
/-! ### The last place at which something holds -/
def lixN {α : Type} (p : α → Bool) (L : List α) : Nat → Option Nat
  | 0 => none
  | n + 1 => if (L[n]?).any p then some n else lixN p L n
theorem lix_hit {α : Type} {p : α → Bool} {L : List α} {n : Nat} {x : α} (hx : L[n]? = some x) (hp : p x = true) : lixN p L (n + 1) = some n := by simp [lixN, hx, hp]
theorem lix_miss {α : Type} {p : α → Bool} {L : List α} {n : Nat} {x : α} (hx : L[n]? = some x) (hp : p x = false) : lixN p L (n + 1) = lixN p L n := by simp [lixN, hx, hp]
theorem lix_spec {α : Type} {p : α → Bool} {L : List α} : ∀ {n j : Nat}, lixN p L n = some j → j < n ∧ ∃ x, L[j]? = some x ∧ p x = true
  | n + 1, j, h => by
    unfold lixN at h
    split at h
    · rename_i hq
      cases h
      cases e : L[n]? with
      | none => rw [e] at hq; cases hq
      | some x => rw [e] at hq; exact ⟨Nat.lt_succ_self _, x, rfl, by simpa using hq⟩
    · obtain ⟨h1, h2⟩ := lix_spec h
      exact ⟨by omega, h2⟩
theorem lix_last {α : Type} {p : α → Bool} {L : List α} : ∀ n, n ≤ L.length → ((L.take n).filter p).getLast? = (lixN p L n).bind fun j => L[j]?
  | 0, _ => rfl
  | n + 1, h => by
    have e : L.take (n + 1) = L.take n ++ [L[n]] := by rw [List.take_append_getElem]
    have hx : L[n]? = some L[n] := List.getElem?_eq_getElem (by omega)
    rw [e, List.filter_append]
    cases hp : p L[n] with
    | true => rw [lix_hit hx hp]; simp [hp, hx]
    | false => rw [lix_miss hx hp, ← lix_last n (by omega)]; simp [hp]
def asP (k : ByteArray) (t : Int) (x : RV) : Bool := eqk x.k k && decide (x.v.cm ≤ t)
theorem as_link (k : ByteArray) (t : Int) (R : List RV) : asC (verR k R) t = ((lixN (asP k t) R R.length).bind fun j => R[j]?).map (·.v) := by
  rw [← lix_last R.length (Nat.le_refl _), List.take_length]
  unfold asC loC verR
  rw [List.filter_map, List.filter_filter, ← List.getLast?_map]
  congr 2
  refine List.filter_congr fun x _ => ?_
  show (decide (x.v.cm ≤ t) && eqk x.k k) = (eqk x.k k && decide (x.v.cm ≤ t))
  rw [Bool.and_comm]
/-- Of one key the versions stand in order. -/
theorem asc_ix {R : List RV} {k : ByteArray} (h : AscC (verR k R)) {i j : Nat} {x y : RV} (hij : i < j) (hx : R[i]? = some x) (hy : R[j]? = some y) (kx : x.k = k) (ky : y.k = k) : x.v.cm < y.v.cm := by
  obtain ⟨hj, ej⟩ := List.getElem?_eq_some_iff.1 hy
  have e : R = R.take j ++ y :: R.drop (j + 1) := by rw [← ej, ← List.drop_eq_getElem_cons, List.take_append_drop]
  have hp := h.1
  rw [e, ver_append] at hp
  refine (List.pairwise_append.1 hp).2.2 x.v (mem_ver.2 ⟨x, ?_, kx, rfl⟩) y.v (mem_ver.2 ⟨y, by simp, ky, rfl⟩)
  exact List.mem_of_getElem? (i := i) (by rw [List.getElem?_take, if_pos hij]; exact hx)
theorem chg_link {R : List RV} {m : List Ct} (h : RelR R m) (hm : OkM m) (r : Rg) (t : Int) : (R.any fun x => hasR r x.k && decide (t < x.v.cm)) = chgM r t m := by
  rw [Bool.eq_iff_iff]
  unfold chgM selM
  simp only [List.any_eq_true, Bool.and_eq_true, decide_eq_true_eq, List.mem_filter]
  constructor
  · rintro ⟨x, hx, h1, h2⟩
    have hv : x.v ∈ chM x.k m := by rw [h]; exact mem_ver.2 ⟨x, hx, rfl, rfl⟩
    have hle := (hm.ch x.k).le_last hv
    unfold chM at hv hle
    cases e : get x.k m with
    | none => rw [e] at hv; cases hv
    | some c =>
      rw [e] at hle
      exact ⟨(x.k, c), ⟨get_mem e, h1⟩, Int.lt_of_lt_of_le h2 hle⟩
  · rintro ⟨⟨k, c⟩, ⟨h1, h2⟩, h3⟩
    have e : chM k m = c := by unfold chM; rw [mem_get hm.srt h1]; rfl
    have hne := hm.ne _ h1
    simp only at h2 h3 hne
    rcases List.eq_nil_or_concat c with rfl | ⟨d, u, rfl⟩
    · exact absurd rfl hne
    · rw [List.concat_eq_append] at e h3
      rw [last_snoc] at h3
      have hu : u ∈ verR k R := by rw [← h k, e]; simp
      obtain ⟨x, hx, rfl, rfl⟩ := mem_ver.1 hu
      exact ⟨x, hx, h2, h3⟩
/-! ### Put -/
def sameV (x y : RV) : Bool := eqk y.k x.k && (y.v.cm == x.v.cm)
def lateR (x y : RV) : Bool := eqk y.k x.k && decide (x.v.cm < y.v.cm)
def putR (R : List RV) (x : RV) : List RV := (R.filter fun y => !sameV x y) ++ [x]
theorem late_link {R : List RV} {m : List Ct} (h : RelR R m) (hm : OkM m) {x : RV} (h1 : 1 ≤ x.v.cm) : R.any (lateR x) = decide (x.v.cm < lastC (chM x.k m)) := by
  rw [Bool.eq_iff_iff, decide_eq_true_iff, List.any_eq_true]
  constructor
  · rintro ⟨y, hy, hl⟩
    simp only [lateR, Bool.and_eq_true, decide_eq_true_eq] at hl
    have := (hm.ch x.k).le_last (v := y.v) (by rw [h]; exact mem_ver.2 ⟨y, hy, eqk_iff.1 hl.1, rfl⟩)
    omega
  · intro hl
    rcases List.eq_nil_or_concat (chM x.k m) with e | ⟨d, u, e⟩
    · rw [e] at hl
      rw [last_nil] at hl
      omega
    · rw [List.concat_eq_append] at e
      have hu : u ∈ verR x.k R := by rw [← h x.k, e]; simp
      obtain ⟨y, hy, hk, hv⟩ := mem_ver.1 hu
      refine ⟨y, hy, ?_⟩
      rw [e, last_snoc] at hl
      simp only [lateR, Bool.and_eq_true, decide_eq_true_eq]
      exact ⟨eqk_iff.2 hk, by rw [hv]; exact hl⟩
theorem with_filter {c : List PV} (h : AscC c) {v : PV} (hl : lastC c ≤ v.cm) (h1 : 1 ≤ v.cm) : withC c v = (c.filter fun u => !(u.cm == v.cm)) ++ [v] := by
  unfold withC
  rcases List.eq_nil_or_concat c with rfl | ⟨d, u, rfl⟩
  · split
    · rename_i e; rw [last_nil] at e; omega
    · rfl
  · rw [List.concat_eq_append] at h hl ⊢
    rw [last_snoc] at hl ⊢
    have hd : (d.filter fun u => !(u.cm == v.cm)) = d := List.filter_eq_self.2 fun y hy => by
      have := (List.pairwise_append.1 h.1).2.2 y hy u (by simp)
      have hne : (y.cm == v.cm) = false := beq_false_of_ne (by omega)
      rw [hne]; rfl
    rw [List.filter_append, hd]
    split
    · rename_i e
      rw [List.dropLast_concat]
      simp [e]
    · rename_i e
      have hne : (u.cm == v.cm) = false := beq_false_of_ne e
      simp [hne]
theorem RelR.put {R : List RV} {m : List Ct} (h : RelR R m) (hm : OkM m) {x : RV} (h1 : 1 ≤ x.v.cm) (hl : lastC (chM x.k m) ≤ x.v.cm) : RelR (putR R x) (putM x.k x.v m) := fun q => by
  unfold putM putR
  rw [ver_append]
  by_cases hq : q = x.k
  · subst hq
    have e : chM x.k (ins x.k (withC (chM x.k m) x.v) m) = withC (chM x.k m) x.v := by unfold chM; rw [get_ins]; rfl
    have e2 : verR x.k [x] = [x.v] := by simp [verR, eqk_self]
    rw [e, e2, with_filter (hm.ch _) hl h1, h x.k]
    congr 1
    unfold verR
    rw [List.filter_map, List.filter_filter, List.filter_filter]
    congr 1
    refine List.filter_congr fun y _ => ?_
    cases e : eqk y.k x.k <;> simp [sameV, e]
  · have e : chM q (ins x.k (withC (chM x.k m) x.v) m) = chM q m := by unfold chM; rw [get_ins_other _ hq]
    have e2 : verR q [x] = [] := by simp [verR, eqk_false (fun e => hq e.symm)]
    rw [e, e2, List.append_nil, h q]
    unfold verR
    rw [List.filter_filter]
    congr 1
    refine List.filter_congr fun y _ => ?_
    cases e : eqk y.k q with
    | false => rfl
    | true => simp [sameV, eqk_false (fun e3 => hq ((eqk_iff.1 e).symm.trans e3))]
/-! ### Prune -/
def keepC (c : List PV) (t : Int) (x : PV) : Bool := match asC c t with
  | none => true
  | some v => if x.cm = v.cm ∧ x.gn = true then c.any fun y => decide (x.cm < y.cm) else decide (v.cm ≤ x.cm)
theorem drop_keep {c : List PV} (h : AscC c) (t : Int) : c.filter (keepC c t) = c.drop (unC c t) := by
  have ha := as_at h t
  have hu := up_le c t
  cases e : asC c t with
  | none =>
    have e2 : unC c t = 0 := by unfold unC; rw [e]
    rw [e2, List.drop_zero]
    exact List.filter_eq_self.2 fun x _ => by unfold keepC; rw [e]
  | some v =>
    rw [e] at ha
    split at ha
    · cases ha
    · rename_i hu0
      obtain ⟨A, B, hAB, hAl⟩ : ∃ A B, c = A ++ v :: B ∧ A.length + 1 = upC c t := by
        obtain ⟨h1, h2⟩ := List.getElem?_eq_some_iff.1 ha.symm
        refine ⟨c.take (upC c t - 1), c.drop (upC c t - 1 + 1), ?_, by rw [List.length_take]; omega⟩
        rw [← h2, ← List.drop_eq_getElem_cons, List.take_append_drop]
      have hp := h.1
      rw [hAB] at hp
      obtain ⟨_, hp2, hp3⟩ := List.pairwise_append.1 hp
      have hB := (List.pairwise_cons.1 hp2).1
      have fA : A.filter (keepC c t) = [] := List.filter_eq_nil_iff.2 fun x hx => by
        have := hp3 x hx v (by simp)
        unfold keepC
        rw [e]
        simp only
        rw [if_neg (by intro q; omega)]
        simp; omega
      have fB : B.filter (keepC c t) = B := List.filter_eq_self.2 fun x hx => by
        have := hB x hx
        unfold keepC
        rw [e]
        simp only
        rw [if_neg (by intro q; omega)]
        simp; omega
      have fv : keepC c t v = if v.gn = true then decide (B ≠ []) else true := by
        unfold keepC
        rw [e]
        dsimp only
        by_cases hg : v.gn = true
        · rw [if_pos ⟨rfl, hg⟩, if_pos hg, Bool.eq_iff_iff, decide_eq_true_iff, List.any_eq_true, hAB]
          constructor
          · rintro ⟨y, hy, hl⟩ rfl
            simp only [decide_eq_true_eq] at hl
            rcases List.mem_append.1 hy with hy | hy
            · have := hp3 y hy v (by simp); omega
            · rw [List.mem_singleton.1 hy] at hl; omega
          · intro hne
            cases B with
            | nil => exact absurd rfl hne
            | cons b B => exact ⟨b, by simp, by simpa using hB b (by simp)⟩
        · rw [if_neg (fun q => hg q.2), if_neg hg]
          simp
      have hun : unC c t = if upC c t = c.length ∧ v.gn = true then upC c t else upC c t - 1 := by unfold unC; rw [e]
      have hlen : c.length = A.length + 1 + B.length := by rw [hAB]; simp; omega
      have e1 : ∀ P : PV → Bool, c.filter P = A.filter P ++ (v :: B).filter P := fun P => by rw [hAB, List.filter_append]
      have e2 : ∀ n, c.drop n = (A ++ v :: B).drop n := fun n => by rw [← hAB]
      rw [e1, fA, List.nil_append, List.filter_cons, fB, fv, hun, e2, hlen, ← hAl]
      by_cases hg : v.gn = true
      · rw [if_pos hg]
        cases B with
        | nil => simp [hg]
        | cons b B => simp [hg]
      · rw [if_neg hg, if_pos rfl, if_neg (fun q => hg q.2)]
        simp
def pruneR (R : List RV) (t : Int) : List RV := R.filter fun x => keepC (verR x.k R) t x.v
theorem RelR.prune {R : List RV} {m : List Ct} (h : RelR R m) (hm : OkM m) (t : Int) : RelR (pruneR R t) (prM t m) := fun q => by
  rw [prM_ch hm, h q, ← drop_keep (h.asc hm q)]
  unfold pruneR
  conv => rhs; unfold verR
  rw [List.filter_filter]
  conv => lhs; rw [verR, List.filter_map, List.filter_filter]
  congr 1
  refine List.filter_congr fun x _ => ?_
  cases e : eqk x.k q with
  | false => simp
  | true => rw [eqk_iff.1 e]; simp
end Go.Proofs.YtagamkahfiackaaGreatDoor
