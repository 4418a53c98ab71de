/- Plain facts: what nobody sees goes, key by key. -/
import Derived.Test.YtagamkahfiackaaGreatDoorVnMath
namespace Go.Proofs.YtagamkahfiackaaGreatDoor

theorem get_ins {α : Type} (l : List (PIt α)) (k : ByteArray) (v : α) : get k (ins k v l) = some v := by
  unfold ins
  exact get_at fun x hx => (mem_lo.1 hx).2
theorem get_lo {α : Type} {l : List (PIt α)} {k q : ByteArray} (h : ltb q k = true) : get q (lo k l) = get q l := by
  unfold get lo
  rw [List.find?_filter]
  congr 2
  funext x
  by_cases e : (!(ltb x.1 q) && !(ltb q x.1)) = true
  · simp only [Bool.and_eq_true, Bool.not_eq_true'] at e
    rw [ltb_total e.1 e.2, h]; simp
  · rw [Bool.eq_false_iff.2 e]; simp
theorem get_hi {α : Type} {l : List (PIt α)} {k q : ByteArray} (h : ltb k q = true) : get q (hi k l) = get q l := by
  unfold get hi
  rw [List.find?_filter]
  congr 2
  funext x
  by_cases e : (!(ltb x.1 q) && !(ltb q x.1)) = true
  · simp only [Bool.and_eq_true, Bool.not_eq_true'] at e
    rw [ltb_total e.1 e.2, h]; simp
  · rw [Bool.eq_false_iff.2 e]; simp
/-- Another key's value. -/
theorem get_del_other {α : Type} {l : List (PIt α)} {k q : ByteArray} (hne : q ≠ k) : get q (del k l) = get q l := by
  rcases ltb_cases q k with h | h | h
  · unfold del
    rw [get_cut (fun x hx => ltb_trans h (mem_hi.1 hx).2), get_lo h]
  · exact absurd h hne
  · unfold del
    rw [get_skip (fun x hx => ltb_trans (mem_lo.1 hx).2 h), get_hi h]
theorem get_ins_other {α : Type} {l : List (PIt α)} {k q : ByteArray} (v : α) (hne : q ≠ k) : get q (ins k v l) = get q l := by
  rcases ltb_cases q k with h | h | h
  · unfold ins
    rw [get_cut (fun x hx => by
      rcases List.mem_cons.1 hx with rfl | hx
      · exact h
      · exact ltb_trans h (mem_hi.1 hx).2), get_lo h]
  · exact absurd h hne
  · unfold ins
    have e : lo k l ++ (k, v) :: hi k l = (lo k l ++ [(k, v)]) ++ hi k l := by simp
    rw [e, get_skip (fun x hx => by
      rcases List.mem_append.1 hx with hx | hx
      · exact ltb_trans (mem_lo.1 hx).2 h
      · rw [List.mem_singleton.1 hx]; exact h), get_hi h]
theorem get_del_self {α : Type} (l : List (PIt α)) (k : ByteArray) : get k (del k l) = none := by
  unfold del
  exact get_new (fun x hx => (mem_lo.1 hx).2) (fun x hx => (mem_hi.1 hx).2)
theorem un_le (c : List PV) (t : Int) : unC c t ≤ c.length := by
  have := up_le c t
  unfold unC
  split
  · exact Nat.zero_le _
  · split <;> omega
theorem un_nil (t : Int) : unC [] t = 0 := rfl
theorem ch_pr1_self (t : Int) (k : ByteArray) (m : List Ct) : chM k (pr1 t k m) = (chM k m).drop (unC (chM k m) t) := by
  unfold pr1
  have hu := un_le (chM k m) t
  split
  · rename_i e
    rw [e, List.drop_length]
    show (get k (del k m)).getD [] = []
    rw [get_del_self]; rfl
  · split
    · show (get k (ins k _ m)).getD [] = _
      rw [get_ins]; rfl
    · rename_i h
      rw [show unC (chM k m) t = 0 by omega, List.drop_zero]
theorem ch_pr1_other (t : Int) {k q : ByteArray} (m : List Ct) (h : q ≠ k) : chM q (pr1 t k m) = chM q m := by
  unfold pr1
  split
  · show (get q (del k m)).getD [] = _
    rw [get_del_other h]; rfl
  · split
    · show (get q (ins k _ m)).getD [] = _
      rw [get_ins_other _ h]; rfl
    · rfl
theorem OkM.pr1 {m : List Ct} (h : OkM m) (t : Int) (k : ByteArray) : OkM (pr1 t k m) := by
  have hu := un_le (chM k m) t
  unfold YtagamkahfiackaaGreatDoor.pr1
  split
  · exact ⟨h.srt.del k, fun x hx => h.asc x (mem_del.1 hx).1, fun x hx => h.ne x (mem_del.1 hx).1⟩
  · split
    · rename_i h1 h2
      refine ⟨h.srt.ins k _, fun x hx => ?_, fun x hx => ?_⟩
      · rcases mem_ins.1 hx with rfl | ⟨hx, _⟩
        · exact (h.ch k).sub (List.drop_sublist _ _)
        · exact h.asc x hx
      · rcases mem_ins.1 hx with rfl | ⟨hx, _⟩
        · intro e
          have := congrArg List.length e
          simp at this
          omega
        · exact h.ne x hx
    · exact h
theorem nVer_pr1 {m : List Ct} (h : Srt m) (t : Int) (k : ByteArray) : nVer (pr1 t k m) + unC (chM k m) t = nVer m := by
  have hu := un_le (chM k m) t
  unfold pr1
  split
  · rename_i e
    rw [e]; exact nVer_del h k
  · split
    · have := nVer_ins h k ((chM k m).drop (unC (chM k m) t))
      rw [List.length_drop] at this
      omega
    · omega
/-- All keys, one behind the other. -/
def prS (t : Int) (ks : List ByteArray) (m : List Ct) : List Ct × Nat := ks.foldl (fun s k => (pr1 t k s.1, s.2 + unC (chM k s.1) t)) (m, 0)
theorem prS_snoc (t : Int) (ks : List ByteArray) (k : ByteArray) (m : List Ct) : prS t (ks ++ [k]) m = (pr1 t k (prS t ks m).1, (prS t ks m).2 + unC (chM k (prS t ks m).1) t) := by simp [prS]
theorem snoc_ind {α : Type} {P : List α → Prop} (h0 : P []) (h1 : ∀ l x, P l → P (l ++ [x])) : ∀ l, P l := by
  intro l
  have : ∀ n (l : List α), l.length = n → P l := by
    intro n
    induction n with
    | zero => intro l hl; rw [List.eq_nil_of_length_eq_zero hl]; exact h0
    | succ n ih =>
      intro l hl
      rcases List.eq_nil_or_concat l with rfl | ⟨d, x, rfl⟩
      · exact h0
      · rw [List.concat_eq_append] at hl ⊢
        exact h1 d x (ih d (by simpa using hl))
  exact this _ l rfl
theorem prS_ok {m : List Ct} (h : OkM m) (t : Int) : ∀ ks, OkM (prS t ks m).1 ∧ nVer (prS t ks m).1 + (prS t ks m).2 = nVer m := by
  refine snoc_ind ⟨h, rfl⟩ fun ks k ⟨h1, h2⟩ => ?_
  rw [prS_snoc]
  refine ⟨h1.pr1 t k, ?_⟩
  have := nVer_pr1 h1.srt t k
  simp only
  omega
theorem prS_ch (m : List Ct) (t : Int) (q : ByteArray) : ∀ ks : List ByteArray, ks.Nodup → (q ∈ ks → chM q (prS t ks m).1 = (chM q m).drop (unC (chM q m) t)) ∧ (q ∉ ks → chM q (prS t ks m).1 = chM q m) := by
  refine snoc_ind (fun _ => ⟨fun h => (by cases h), fun _ => rfl⟩) fun ks k ih hn => ?_
  rw [prS_snoc]
  have hn2 := List.nodup_append.1 hn
  have ih := ih hn2.1
  simp only
  refine ⟨fun hq => ?_, fun hq => ?_⟩
  · rcases List.mem_append.1 hq with hq | hq
    · rw [ch_pr1_other t _ (fun e => hn2.2.2 q hq k (by simp) e)]
      exact ih.1 hq
    · obtain rfl := List.mem_singleton.1 hq
      rw [ch_pr1_self, ih.2 fun hk => hn2.2.2 q hk q (by simp) rfl]
  · rw [ch_pr1_other t _ (fun e => hq (by simp [e]))]
    exact ih.2 fun hk => hq (by simp [hk])
theorem keys_nodup {m : List Ct} (h : Srt m) : (m.map (·.1)).Nodup := by
  rw [List.Nodup, List.pairwise_map]
  exact h.imp fun q => ltb_ne q
theorem ch_of_not {m : List Ct} {q : ByteArray} (h : q ∉ m.map (·.1)) : chM q m = [] := by
  unfold chM
  cases e : get q m with
  | none => rfl
  | some c => exact absurd (List.mem_map.2 ⟨_, get_mem e, rfl⟩) h
/-- What Prune leaves. -/
def prM (t : Int) (m : List Ct) : List Ct := (prS t (m.map (·.1)) m).1
theorem prM_ch {m : List Ct} (h : OkM m) (t : Int) (q : ByteArray) : chM q (prM t m) = (chM q m).drop (unC (chM q m) t) := by
  have := prS_ch m t q _ (keys_nodup h.srt)
  by_cases hq : q ∈ m.map (·.1)
  · exact this.1 hq
  · refine (this.2 hq).trans ?_
    rw [ch_of_not hq]; simp
end Go.Proofs.YtagamkahfiackaaGreatDoor
