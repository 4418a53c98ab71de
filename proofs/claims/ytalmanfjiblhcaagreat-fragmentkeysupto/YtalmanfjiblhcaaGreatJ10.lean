/- Plain facts on stores of all labels: what is kept of each label and table; what a label sees, in order; what stays of it. No program is in it; Rows of elements of any size: copy, clear; regions that draw their order, by hand. -/
import Derived.Test.YtalmanfjiblhcaaGreatJ9
import Derived.Test.YtalmanfjiblhcaaGreatJ6
namespace Go.Proofs.YtalmanfjiblhcaaGreat
structure Chg where
 t : Nat
 k : ByteArray
 tx : ByteArray
 gn : Bool
structure FgM where
 cm : Nat → Nat
 rw : Nat → Int
 fr : Nat → Nat → List Ct
def fg0 : FgM := ⟨fun _ => 0, fun _ => 0, fun _ _ => []⟩
def w64 (n : Int) : Int := (n + 9223372036854775808) % 18446744073709551616 - 9223372036854775808
def rwPut (z : Int) (was gn : Bool) : Int := if gn then (if was then w64 (z - 1) else z) else w64 ((if was then w64 (z - 1) else z) + 1)
def pvOf (t : Int) (c : Chg) : PV := ⟨t, if c.gn then ⟨#[]⟩ else c.tx, c.gn⟩
def putF (L : Nat) (c : Chg) (x : FgM) : FgM :=
 ⟨x.cm, fun a => if a = L then rwPut (x.rw L) (rowC (chM c.k (x.fr L c.t)) (x.cm L)).isSome c.gn else x.rw a, fun a b => if a = L ∧ b = c.t then putM c.k (pvOf (x.cm L) c) (x.fr L c.t) else x.fr a b⟩
def bumpF (L : Nat) (x : FgM) : FgM := ⟨fun a => if a = L then x.cm L + 1 else x.cm a, x.rw, x.fr⟩
def putsF (L : Nat) (cs : List Chg) (x : FgM) : FgM := cs.foldl (fun x c => putF L c x) x
def applyF (L : Nat) (cs : List Chg) (x : FgM) : FgM := putsF L cs (bumpF L x)
theorem putsF_snoc (L : Nat) (cs : List Chg) (c : Chg) (x : FgM) : putsF L (cs ++ [c]) x = putF L c (putsF L cs x) := by simp [putsF]
theorem putsF_cm (L : Nat) : ∀ (cs : List Chg) (x : FgM), (putsF L cs x).cm = x.cm
 | [], _ => rfl
 | c :: cs, x => by show (putsF L cs (putF L c x)).cm = _; rw [putsF_cm L cs]; rfl
theorem putF_at (L : Nat) (c : Chg) (x : FgM) : (putF L c x).fr L c.t = putM c.k (pvOf (x.cm L) c) (x.fr L c.t) := by simp [putF]
theorem putF_other {L a b : Nat} (c : Chg) (x : FgM) (h : ¬ (a = L ∧ b = c.t)) : (putF L c x).fr a b = x.fr a b := by simp only [putF, if_neg h]
structure OkF (Q : Nat → ByteArray → ByteArray → Prop) (N : Nat) (x : FgM) : Prop where
 ok : ∀ a b, OkM (x.fr a b)
 late : ∀ a b k, lastC (chM k (x.fr a b)) ≤ x.cm a
 num : ∀ a b, nVer (x.fr a b) ≤ N
 row : ∀ a b, ∀ y ∈ x.fr a b, ∀ v ∈ y.2, v.gn = false → Q b y.1 v.tx
theorem okF_zero (Q : Nat → ByteArray → ByteArray → Prop) (N : Nat) : OkF Q N fg0 :=
 ⟨fun _ _ => ok_nil, fun _ _ _ => Int.le_refl _, fun _ _ => Nat.zero_le _, fun _ _ _ h => by cases h⟩
theorem OkF.mono {Q : Nat → ByteArray → ByteArray → Prop} {N N' : Nat} {x : FgM} (h : OkF Q N x) (hN : N ≤ N') : OkF Q N' x := ⟨h.ok, h.late, fun a b => Nat.le_trans (h.num a b) hN, h.row⟩
theorem OkF.bump {Q : Nat → ByteArray → ByteArray → Prop} {N : Nat} {x : FgM} (h : OkF Q N x) (L : Nat) : OkF Q N (bumpF L x) :=
 ⟨h.ok, fun a b k => by
  have := h.late a b k
  show lastC (chM k (x.fr a b)) ≤ (((if a = L then x.cm L + 1 else x.cm a : Nat)) : Int)
  split
  · rename_i e; subst e; omega
  · exact this, h.num, h.row⟩
theorem ch_put_self (k : ByteArray) (v : PV) (m : List Ct) : chM k (putM k v m) = withC (chM k m) v := by
 unfold putM chM; rw [get_ins]; rfl
theorem ch_put_other {k q : ByteArray} (v : PV) (m : List Ct) (h : q ≠ k) : chM q (putM k v m) = chM q m := by
 unfold putM chM; rw [get_ins_other _ h]
theorem with_mem {c : List PV} {v u : PV} (h : u ∈ withC c v) : u ∈ c ∨ u = v := by
 unfold withC at h
 split at h <;> rcases List.mem_append.1 h with h | h
 · exact .inl (List.dropLast_subset c h)
 · exact .inr (List.mem_singleton.1 h)
 · exact .inl h
 · exact .inr (List.mem_singleton.1 h)
theorem mem_chM {k : ByteArray} {m : List Ct} {v : PV} (h : v ∈ chM k m) : ∃ c, (k, c) ∈ m ∧ v ∈ c := by
 unfold chM at h
 cases e : get k m with
 | none => rw [e] at h; cases h
 | some c => rw [e] at h; exact ⟨c, get_mem e, h⟩
theorem OkF.put {Q : Nat → ByteArray → ByteArray → Prop} {N : Nat} {x : FgM} (h : OkF Q N x) {L : Nat} (h1 : 1 ≤ x.cm L) (c : Chg) (hq : c.gn = false → Q c.t c.k c.tx) : OkF Q (N + 1) (putF L c x) := by
 have hl : lastC (chM c.k (x.fr L c.t)) ≤ (pvOf (x.cm L) c).cm := h.late L c.t c.k
 have hp : 1 ≤ (pvOf (x.cm L) c).cm := by show (1 : Int) ≤ (x.cm L : Int); omega
 have hk := (h.ok L c.t).put (k := c.k) hp hl
 refine ⟨fun a b => ?_, fun a b k => ?_, fun a b => ?_, fun a b => ?_⟩ <;> by_cases e : a = L ∧ b = c.t
 · obtain ⟨rfl, rfl⟩ := e; rw [putF_at]; exact hk
 · rw [putF_other c x e]; exact h.ok a b
 · obtain ⟨rfl, rfl⟩ := e
   rw [putF_at]
   by_cases hk' : k = c.k
   · subst hk'; rw [ch_put_self, last_with]; exact Int.le_refl _
   · rw [ch_put_other _ _ hk']; exact h.late a c.t k
 · rw [putF_other c x e]; exact h.late a b k
 · obtain ⟨rfl, rfl⟩ := e
   rw [putF_at]
   have := nVer_put (h.ok a c.t).srt c.k (pvOf (x.cm a) c)
   have := h.num a c.t
   omega
 · rw [putF_other c x e]; have := h.num a b; omega
 · obtain ⟨rfl, rfl⟩ := e
   rw [putF_at]
   intro y hy v hv hg
   rcases mem_ins.1 hy with rfl | ⟨hy, _⟩
   · rcases with_mem hv with hv | rfl
     · obtain ⟨d, hd, hv⟩ := mem_chM hv
       exact h.row a c.t _ hd v hv hg
     · have hg' : c.gn = false := hg
       show Q c.t c.k (if c.gn then ⟨#[]⟩ else c.tx)
       rw [hg']
       exact hq hg'
   · exact h.row a c.t y hy v hv hg
 · rw [putF_other c x e]; exact h.row a b
theorem OkF.puts {Q : Nat → ByteArray → ByteArray → Prop} {L : Nat} : ∀ {cs : List Chg} {N : Nat} {x : FgM}, OkF Q N x → 1 ≤ x.cm L → (∀ c ∈ cs, c.gn = false → Q c.t c.k c.tx) → OkF Q (N + cs.length) (putsF L cs x)
 | [], _, _, h, _, _ => h
 | c :: cs, N, x, h, h1, hq => by
   have := OkF.puts (cs := cs) (h.put h1 c (hq c (by simp))) h1 fun d hd => hq d (by simp [hd])
   exact this.mono (by simp; omega)
theorem OkF.apply {Q : Nat → ByteArray → ByteArray → Prop} {L : Nat} {cs : List Chg} {N : Nat} {x : FgM} (h : OkF Q N x) (hq : ∀ c ∈ cs, c.gn = false → Q c.t c.k c.tx) : OkF Q (N + cs.length) (applyF L cs x) :=
 (h.bump L).puts (by show 1 ≤ (if L = L then x.cm L + 1 else x.cm L); rw [if_pos rfl]; omega) hq
theorem srt_ext {α : Type} : ∀ {a b : List (PIt α)}, Srt a → Srt b → (∀ k, get k a = get k b) → a = b
 | [], [], _, _, _ => rfl
 | [], y :: b, _, hb, h => by
   have := h y.1
   rw [mem_get hb (List.mem_cons_self)] at this
   cases this
 | x :: a, [], ha, _, h => by
   have := h x.1
   rw [mem_get ha (List.mem_cons_self)] at this
   cases this
 | x :: a, y :: b, ha, hb, h => by
   obtain ⟨a1, a2⟩ := List.pairwise_cons.1 ha
   obtain ⟨b1, b2⟩ := List.pairwise_cons.1 hb
   have hx := h x.1
   rw [mem_get ha (List.mem_cons_self)] at hx
   have hxm := get_mem hx.symm
   have hy := h y.1
   rw [mem_get hb (List.mem_cons_self)] at hy
   have hym := get_mem hy
   have e : x = y := by
    rcases List.mem_cons.1 hxm with e | hxm
    · exact e
    · rcases List.mem_cons.1 hym with e | hym
      · exact e.symm
      · exact absurd (ltb_trans (b1 _ hxm) (a1 _ hym)) (by rw [ltb_irrefl]; simp)
   subst e
   refine congrArg (x :: ·) (srt_ext a2 b2 fun k => ?_)
   have hk := h k
   by_cases e : k = x.1
   · subst e
     have n1 : get x.1 a = none := by
      cases q : get x.1 a with
      | none => rfl
      | some v => have := a1 _ (get_mem q); rw [ltb_irrefl] at this; cases this
     have n2 : get x.1 b = none := by
      cases q : get x.1 b with
      | none => rfl
      | some v => have := b1 _ (get_mem q); rw [ltb_irrefl] at this; cases this
     rw [n1, n2]
   · have s : ∀ l : List (PIt α), get k (x :: l) = get k l := fun l => by
      unfold get
      rw [List.find?_cons]
      have : (!(ltb x.1 k) && !(ltb k x.1)) = false := by
       rcases ltb_cases x.1 k with q | q | q
       · simp [q]
       · exact absurd q.symm e
       · simp [q]
      rw [this]
     rw [s, s] at hk
     exact hk
def asM (t : Int) (m : List Ct) : List (PIt ByteArray) := m.filterMap fun x => (rowC x.2 t).map fun y => (x.1, y)
theorem rowsM_as (r : Rg) (t : Int) (m : List Ct) : rowsM r t m = (asM t m).filter fun x => hasR r x.1 := by
 unfold rowsM asM selM
 induction m with
 | nil => rfl
 | cons x m ih =>
   rw [List.filter_cons]
   split
   · rename_i h
     rw [List.filterMap_cons, List.filterMap_cons]
     cases rowC x.2 t with
     | none => exact ih
     | some y => simp only [Option.map_some, List.filter_cons, h, if_true]; rw [ih]
   · rename_i h
     rw [List.filterMap_cons]
     cases rowC x.2 t with
     | none => exact ih
     | some y => simp only [Option.map_some, List.filter_cons, h]; exact ih
theorem asM_srt {m : List Ct} (h : Srt m) (t : Int) : Srt (asM t m) := by
 unfold asM Srt at *
 rw [List.pairwise_filterMap]
 refine h.imp fun {x y} hxy a ha b hb => ?_
 rw [Option.map_eq_some_iff] at ha hb
 obtain ⟨_, _, rfl⟩ := ha
 obtain ⟨_, _, rfl⟩ := hb
 exact hxy
theorem asM_get {m : List Ct} (h : Srt m) (t : Int) (k : ByteArray) : get k (asM t m) = rowC (chM k m) t := by
 have key : ∀ y, get k (asM t m) = some y ↔ rowC (chM k m) t = some y := fun y => by
  constructor
  · intro e
    have hm := get_mem e
    unfold asM at hm
    obtain ⟨x, hx, he⟩ := List.mem_filterMap.1 hm
    rw [Option.map_eq_some_iff] at he
    obtain ⟨z, hz, e2⟩ := he
    simp only [Prod.mk.injEq] at e2
    obtain ⟨rfl, rfl⟩ := e2
    unfold chM
    rw [mem_get h hx]
    exact hz
  · intro e
    unfold chM at e
    cases q : get k m with
    | none => rw [q] at e; exact absurd e (by simp [rowC, asC, loC, rowO])
    | some c =>
      rw [q] at e
      exact mem_get (asM_srt h t) (x := (k, y)) (by unfold asM; exact List.mem_filterMap.2 ⟨(k, c), get_mem q, by simp only [Option.getD_some] at e; rw [e]; rfl⟩)
 cases q : get k (asM t m) with
 | none =>
   cases q2 : rowC (chM k m) t with
   | none => rfl
   | some y => rw [(key y).2 q2] at q; cases q
 | some y => exact ((key y).1 q).symm
theorem rowsM_ext {m n : List Ct} (hm : Srt m) (hn : Srt n) (r : Rg) (t s : Int) (h : ∀ k, rowC (chM k m) t = rowC (chM k n) s) : rowsM r t m = rowsM r s n := by
 rw [rowsM_as, rowsM_as, srt_ext (asM_srt hm t) (asM_srt hn s) fun k => by rw [asM_get hm, asM_get hn, h k]]
theorem rowC_with {c : List PV} {v : PV} {t : Int} (ha : AscC c) (hl : lastC c ≤ v.cm) (ht : t < v.cm) : rowC (withC c v) t = rowC c t := by
 have e : loC (withC c v) t = loC c t := by
  unfold withC
  split
  · rename_i he
    have hv : loC [v] t = [] := by simp [loC]; omega
    rcases List.eq_nil_or_concat c with rfl | ⟨d, u, rfl⟩
    · simp only [List.dropLast_nil, List.nil_append]; exact hv
    · rw [List.concat_eq_append] at *
      rw [last_snoc] at he
      have hu : loC [u] t = [] := by simp [loC]; omega
      rw [List.dropLast_concat]
      unfold loC at *
      rw [List.filter_append, List.filter_append, hv, hu]
  · unfold loC
    rw [List.filter_append]
    have : List.filter (fun v => decide (v.cm ≤ t)) [v] = [] := by simp; omega
    rw [this, List.append_nil]
 unfold rowC asC
 rw [e]
theorem rowsM_put {m : List Ct} (h : OkM m) (r : Rg) {k : ByteArray} {v : PV} {t : Int} (h1 : 1 ≤ v.cm) (hl : lastC (chM k m) ≤ v.cm) (ht : t < v.cm) : rowsM r t (putM k v m) = rowsM r t m :=
 rowsM_ext (h.put h1 hl).srt h.srt r t t fun q => by
  by_cases e : q = k
  · subst e; rw [ch_put_self, rowC_with (h.ch q) hl ht]
  · rw [ch_put_other v m e]
theorem rowsF_put {Q : Nat → ByteArray → ByteArray → Prop} {N : Nat} {x : FgM} (h : OkF Q N x) (r : Rg) {L : Nat} (h1 : 1 ≤ x.cm L) (c : Chg) {a : Nat} {t : Int} (ht : a = L → t < x.cm L) (b : Nat) : rowsM r t ((putF L c x).fr a b) = rowsM r t (x.fr a b) := by
 by_cases e : a = L ∧ b = c.t
 · obtain ⟨rfl, rfl⟩ := e
   rw [putF_at]
   exact rowsM_put (h.ok a c.t) r (v := pvOf (x.cm a) c) (by show (1 : Int) ≤ (x.cm a : Int); omega) (h.late a c.t c.k) (ht rfl)
 · rw [putF_other c x e]
theorem rowsF_puts {Q : Nat → ByteArray → ByteArray → Prop} (r : Rg) {L a : Nat} {t : Int} (b : Nat) : ∀ {cs : List Chg} {N : Nat} {x : FgM}, OkF Q N x → 1 ≤ x.cm L → (∀ c ∈ cs, c.gn = false → Q c.t c.k c.tx) → (a = L → t < x.cm L) → rowsM r t ((putsF L cs x).fr a b) = rowsM r t (x.fr a b)
 | [], _, _, _, _, _, _ => rfl
 | c :: cs, N, x, h, h1, hq, ht => by
   have := rowsF_puts r b (a := a) (t := t) (cs := cs) (h.put h1 c (hq c (by simp))) h1 (fun d hd => hq d (by simp [hd])) ht
   exact this.trans (rowsF_put h r h1 c ht b)
theorem rowsF_apply {Q : Nat → ByteArray → ByteArray → Prop} {N : Nat} {x : FgM} (h : OkF Q N x) (r : Rg) {L : Nat} {cs : List Chg} (hq : ∀ c ∈ cs, c.gn = false → Q c.t c.k c.tx) {a : Nat} {t : Int} (ht : t ≤ x.cm a) (b : Nat) : rowsM r t ((applyF L cs x).fr a b) = rowsM r t (x.fr a b) := by
 have hc : (bumpF L x).cm L = x.cm L + 1 := by simp [bumpF]
 exact rowsF_puts r b (h.bump L) (by rw [hc]; omega) hq fun e => by subst e; rw [hc]; omega
structure Sn where
 k : ByteArray
 p : Nat
 tx : ByteArray
def ltE (x y : Sn) : Prop := ltb x.k y.k = true ∨ (x.k = y.k ∧ x.p < y.p)
theorem ltE_irrefl (x : Sn) : ¬ ltE x x := by
 rintro (h | ⟨_, h⟩)
 · rw [ltb_irrefl] at h; cases h
 · omega
theorem ltE_trans {x y z : Sn} (h : ltE x y) (k : ltE y z) : ltE x z := by
 rcases h with h | ⟨h, h'⟩ <;> rcases k with k | ⟨k, k'⟩
 · exact .inl (ltb_trans h k)
 · exact .inl (by rw [← k]; exact h)
 · exact .inl (by rw [h]; exact k)
 · exact .inr ⟨h.trans k, by omega⟩
def seenB (fr : Nat → List Ct) (t : Nat → Int) (r : Rg) (B : List Nat) : List Sn := B.flatMap fun a => (rowsM r (t a) (fr a)).map fun p => ⟨p.1, a, p.2⟩
def SeenIs (fr : Nat → List Ct) (t : Nat → Int) (r : Rg) (B : List Nat) (l : List Sn) : Prop := l.Pairwise ltE ∧ l.Perm (seenB fr t r B)
theorem perm_cut {x : Sn} : ∀ {l : List Sn}, (∀ y ∈ l, ltE y x ∨ ltE x y) → ∃ a b : List Sn, (a ++ b).Perm l ∧ (∀ y ∈ a, ltE y x) ∧ (∀ y ∈ b, ltE x y) ∧ a.Sublist l ∧ b.Sublist l
 | [], _ => ⟨[], [], .refl _, (fun _ h => by cases h), (fun _ h => by cases h), .slnil, .slnil⟩
 | z :: l, h => by
   obtain ⟨a, b, hp, h1, h2, s1, s2⟩ := perm_cut (l := l) fun y hy => h y (by simp [hy])
   rcases h z (by simp) with q | q
   · exact ⟨z :: a, b, hp.cons z, fun y hy => (List.mem_cons.1 hy).elim (fun e => e ▸ q) (h1 y), h2, s1.cons_cons z, s2.cons z⟩
   · exact ⟨a, z :: b, List.perm_middle.trans (hp.cons z), h1, fun y hy => (List.mem_cons.1 hy).elim (fun e => e ▸ q) (h2 y), s1.cons z, s2.cons_cons z⟩
theorem put_order : ∀ {s : List Sn}, s.Pairwise (fun x y => ltE x y ∨ ltE y x) → ∃ l : List Sn, l.Pairwise ltE ∧ l.Perm s
 | [], _ => ⟨[], List.Pairwise.nil, .refl _⟩
 | x :: s, h => by
   obtain ⟨h1, h2⟩ := List.pairwise_cons.1 h
   obtain ⟨l, hl, hp⟩ := put_order h2
   obtain ⟨a, b, hab, ha, hb, s1, s2⟩ := perm_cut (x := x) (l := l) fun y hy => (h1 y (hp.mem_iff.1 hy)).symm
   refine ⟨a ++ x :: b, List.pairwise_append.2 ⟨hl.sublist s1, List.pairwise_cons.2 ⟨hb, hl.sublist s2⟩, fun y hy z hz => ?_⟩, List.perm_middle.trans ((hab.trans hp).cons x)⟩
   rcases List.mem_cons.1 hz with rfl | hz
   · exact ha y hy
   · exact ltE_trans (ha y hy) (hb z hz)
theorem rowsM_srt {m : List Ct} (h : Srt m) (r : Rg) (t : Int) : Srt (rowsM r t m) := by rw [rowsM_as]; exact List.Pairwise.filter _ (asM_srt h t)
theorem seenB_apart {fr : Nat → List Ct} {t : Nat → Int} {r : Rg} (hok : ∀ a, Srt (fr a)) : ∀ {B : List Nat}, B.Nodup → (seenB fr t r B).Pairwise fun x y => ltE x y ∨ ltE y x
 | [], _ => List.Pairwise.nil
 | a :: B, hB => by
   obtain ⟨n1, n2⟩ := List.nodup_cons.1 hB
   have ih := seenB_apart (t := t) (r := r) hok n2
   unfold seenB at *
   rw [List.flatMap_cons]
   refine List.pairwise_append.2 ⟨?_, ih, fun x hx y hy => ?_⟩
   · rw [List.pairwise_map]
     exact (rowsM_srt (hok a) r (t a)).imp fun h => .inl (.inl h)
   · obtain ⟨p, _, rfl⟩ := List.mem_map.1 hx
     obtain ⟨b, hb, hy⟩ := List.mem_flatMap.1 hy
     obtain ⟨q, _, rfl⟩ := List.mem_map.1 hy
     have hne : a ≠ b := fun e => n1 (e ▸ hb)
     rcases ltb_cases p.1 q.1 with h | h | h
     · exact .inl (.inl h)
     · rcases Nat.lt_or_gt_of_ne hne with k | k
       · exact .inl (.inr ⟨h, k⟩)
       · exact .inr (.inr ⟨h.symm, k⟩)
     · exact .inr (.inl h)
theorem seen_some {fr : Nat → List Ct} (hok : ∀ a, Srt (fr a)) (t : Nat → Int) (r : Rg) {B : List Nat} (hB : B.Nodup) : ∃ l, SeenIs fr t r B l := by
 obtain ⟨l, h1, h2⟩ := put_order (seenB_apart (t := t) (r := r) hok hB)
 exact ⟨l, h1, h2⟩
theorem seen_row {Q : Nat → ByteArray → ByteArray → Prop} {N : Nat} {x : FgM} (h : OkF Q N x) {b : Nat} {t : Nat → Int} {r : Rg} {B : List Nat} {y : Sn} (hy : y ∈ seenB (fun a => x.fr a b) t r B) : y.p ∈ B ∧ Q b y.k y.tx ∧ rowC (chM y.k (x.fr y.p b)) (t y.p) = some y.tx := by
 unfold seenB at hy
 obtain ⟨a, ha, hy⟩ := List.mem_flatMap.1 hy
 obtain ⟨p, hp, rfl⟩ := List.mem_map.1 hy
 rw [rowsM_as] at hp
 have hp := (List.mem_filter.1 hp).1
 have hg := mem_get (asM_srt (h.ok a b).srt (t a)) hp
 rw [asM_get (h.ok a b).srt] at hg
 refine ⟨ha, ?_, hg⟩
 unfold rowC asC at hg
 cases e : (loC (chM p.1 (x.fr a b)) (t a)).getLast? with
 | none => rw [e] at hg; cases hg
 | some v =>
   rw [e] at hg
   have hv : v ∈ chM p.1 (x.fr a b) := (List.mem_filter.1 (List.mem_of_getLast? e)).1
   obtain ⟨c, hc, hv⟩ := mem_chM hv
   have hq := h.row a b _ hc v hv
   cases g : v.gn with
   | true => simp [rowO, g] at hg
   | false =>
     simp [rowO, g] at hg
     have := hq g
     rw [hg] at this
     exact this
theorem seenB_len {fr : Nat → List Ct} {t : Nat → Int} {r : Rg} {K : Nat} (hK : ∀ a, nVer (fr a) ≤ K) (hok : ∀ a, OkM (fr a)) : ∀ {B : List Nat}, (seenB fr t r B).length ≤ B.length * K
 | [] => by simp [seenB]
 | a :: B => by
   have ih := seenB_len (t := t) (r := r) hK hok (B := B)
   unfold seenB at *
   rw [List.flatMap_cons, List.length_append, List.length_map]
   have h1 : (rowsM r (t a) (fr a)).length ≤ K := by
    have := hK a
    have := (hok a).len
    rw [rowsM_as]
    have l1 := List.length_filter_le (fun x : PIt ByteArray => hasR r x.1) (asM (t a) (fr a))
    have l2 : (asM (t a) (fr a)).length ≤ (fr a).length := List.length_filterMap_le _ _
    omega
   rw [List.length_cons, Nat.succ_mul]
   omega
end Go.Proofs.YtalmanfjiblhcaaGreat
namespace Go.Proofs.YtalmanfjiblhcaaGreat
open Go.RowKit Go.Sort
section
variable {P : Program}
theorem run_copy_sz (w : World) (dT sT ty elem : TypeId) (i : TypeInfo) (g o dLen dCap : Nat) (a : Addr) (sLen sCap : Nat) (cur : Array Value) (t : TypeId) (cs : List Value)
 (hu : P.underlying dT = some (.slice elem)) (hi : P.info? elem = some i)
 (hg : w.heap[g]? = some (.cells cur t (0, 0))) (hn : cs.length = Nat.min sLen dLen * i.size)
 (hsrc : ∀ j v, cs[j]? = some v → w.cell? (a.add j) = some v) (hfit : o + cs.length ≤ cur.size) (h1 : ∀ v ∈ cs, v.oneCell' = true) :
 (Builtin.copy_ #[dT, sT] ty #[.slice (some ⟨g, o, none⟩) dLen dCap, .slice (some a) sLen sCap]).run P w =
   .ok (goInt (Nat.min sLen dLen)) (w.setRow g (cur.toList.take o ++ cs ++ cur.toList.drop (o + cs.length)).toArray) := by
 have hl := run_loadCells_list (P := P) w a cs hsrc
 have hst := run_storeCells_at P g o t cs 0 cur w hg (by simpa using hfit) h1
 simp [Builtin.copy_, run_underlying hu, Builtin.lenOf, Builtin.firstCells, sizeOf, typeInfo, hi, ← hn, hl, hst]
theorem run_clear_sz (w : World) (t e ty : TypeId) (z : Value) (ht : P.underlying t = some (.slice e)) (hv : (zeroValue e).run P w = .ok z w) (g o n c : Nat) (hn : 0 < n) (cur : Array Value) (u : TypeId)
 (hg : w.heap[g]? = some (.cells cur u (0, 0))) (zs : List Value) (hz : (Builtin.zeroCells z.cells n).toList = zs) (hfit : o + zs.length ≤ cur.size) (h1 : ∀ v ∈ zs, v.oneCell' = true) :
 (Builtin.clear_ #[t] ty #[.slice (some ⟨g, o, none⟩) n c]).run P w = .ok (.tuple #[]) (w.setRow g (cur.toList.take o ++ zs ++ cur.toList.drop (o + zs.length)).toArray) := by
 have hst := run_storeCells_at P g o u zs 0 cur w hg (by simpa using hfit) h1
 simp only [Nat.add_zero] at hst
 obtain ⟨m, rfl⟩ : ∃ m, n = m + 1 := ⟨n - 1, by omega⟩
 simp [Builtin.clear_, run_underlying ht, hv, hz, hst]
theorem wpList_copy_run (w : World) {ops : Array Oper} {rest : List Oper} {o : Oper} {a : Act} {Q : Exit → Act → World → Prop} (hgd : o.guard = none) (d s : Operand) (t t' : TypeId)
 (ho : o.op = .call { callee := .builtin .copy, args := #[d, s], argTypes := #[t, t'] }) (v u : Value) (hd : a.eval d = v) (hs : a.eval s = u) {v' : Value} {w' : World}
 (hr : (Builtin.copy_ #[t, t'] o.type #[v, u]).run P w = .ok v' w') (h : wpList P ops Q rest (a.put o.dst v') w') : wpList P ops Q (o :: rest) a w :=
 wpList_plain hgd fun _ hK => by
  unfold Oper.wp execOp
  simp only [ho, resolve, invoke, builtin, Sem.run_bind, Sem.run_pure, Result.andThen_ok, List.map_toArray, List.map_cons, List.map_nil, hd, hs, hr]
  exact hK _ _ h
theorem wpList_clear_run (w : World) {ops : Array Oper} {rest : List Oper} {o : Oper} {a : Act} {Q : Exit → Act → World → Prop} (hgd : o.guard = none) (d : Operand) (t : TypeId)
 (ho : o.op = .call { callee := .builtin .clear, args := #[d], argTypes := #[t] }) (v : Value) (hd : a.eval d = v) {v' : Value} {w' : World}
 (hr : (Builtin.clear_ #[t] o.type #[v]).run P w = .ok v' w') (h : wpList P ops Q rest (a.put o.dst v') w') : wpList P ops Q (o :: rest) a w :=
 wpList_plain hgd fun _ hK => by
  unfold Oper.wp execOp
  simp only [ho, resolve, invoke, builtin, Sem.run_bind, Sem.run_pure, Result.andThen_ok, List.map_toArray, List.map_cons, List.map_nil, hd, hr]
  exact hK _ _ h
theorem step_copy_run {ops : Array Oper} {o : Oper} {a : Act} {w : World} {K : Act → World → Prop} {Q : Exit → Act → World → Prop} {E : Prop}
 (hg : o.guard = none) (d x : Operand) (dT sT : TypeId) (hop : o.op = Op.call { callee := Callee.builtin Builtin.copy, args := #[d, x], argTypes := #[dT, sT] })
 (v u : Value) (hd : a.eval d = v) (hx : a.eval x = u) {v' : Value} {w' : World} (hr : (Builtin.copy_ #[dT, sT] o.type #[v, u]).run P w = .ok v' w') (hK : K (a.put o.dst v') w') :
 if Region.wanted o (yielded ops a.tmps) = true then Oper.wp P o a w K Q else E := by
 have hw : Region.wanted o (yielded ops a.tmps) = true := by simp [Region.wanted, hg]
 rw [if_pos hw]
 unfold Oper.wp
 simp [execOp, hop, resolve, invoke, builtin, hd, hx, hr, Result.andThen]
 exact hK
theorem step_append_run {ops : Array Oper} {o : Oper} {a : Act} {w : World} {K : Act → World → Prop} {Q : Exit → Act → World → Prop} {E : Prop}
 (hg : o.guard = none) (d x : Operand) (dT sT : TypeId) (hop : o.op = Op.call { callee := Callee.builtin Builtin.append, args := #[d, x], argTypes := #[dT, sT] })
 (v u : Value) (hd : a.eval d = v) (hx : a.eval x = u) {v' : Value} {w' : World} (hr : (Builtin.append_ #[dT, sT] o.type #[v, u]).run P w = .ok v' w') (hK : K (a.put o.dst v') w') :
 if Region.wanted o (yielded ops a.tmps) = true then Oper.wp P o a w K Q else E := by
 have hw : Region.wanted o (yielded ops a.tmps) = true := by simp [Region.wanted, hg]
 rw [if_pos hw]
 unfold Oper.wp
 simp [execOp, hop, resolve, invoke, builtin, hd, hx, hr, Result.andThen]
 exact hK
end
section
variable {P : Program} {l : List Oper} {Q : Exit → Act → World → Prop} {md : Region.Mode} {S : World → Prop}
end
theorem row_open {w : World} {base e s n : Nat} {v : Value} {xs : List Value} (h : w.ownsRow base e s v n xs) (hn : 0 < n) : ∃ g cap cur, v = .slice (some ⟨g, 0, none⟩) n cap ∧ w.heap[g]? = some (.cells cur e (0, 0)) ∧ n ≤ cap ∧ cap ≤ maxLen ∧ cur.size = cap * s ∧ cur.toList.take (n * s) = xs := by
 rcases h.2 with ⟨_, e⟩ | ⟨g, cap, cur, e1, _, h2, h3, h4, h5, h6⟩
 · omega
 · exact ⟨g, cap, cur, e1, h2, h3, h4, h5, h6⟩
theorem row_mk {w : World} {e s n g cap : Nat} {cur : Array Value} {xs : List Value} (h : w.heap[g]? = some (.cells cur e (0, 0))) (hn : n ≤ cap) (hc : cap ≤ maxLen) (hs : cur.size = cap * s) (hx : cur.toList.take (n * s) = xs) : w.ownsRow 0 e s (.slice (some ⟨g, 0, none⟩) n cap) n xs := by
 refine ⟨?_, .inr ⟨g, cap, cur, rfl, Nat.zero_le _, h, hn, hc, hs, hx⟩⟩
 rw [← hx, List.length_take, Array.length_toList, hs]
 exact Nat.min_eq_left (Nat.mul_le_mul_right s hn)
theorem grown_trans {w w1 w2 : World} {r : Option Nat} (h : w.grownBy w1 r) (k : w1.grownBy w2 r) : w.grownBy w2 r :=
 ⟨k.os.trans h.os, k.tape.trans h.tape, k.output.trans h.output, Nat.le_trans h.size k.size, fun i hi hn => (k.block i (Nat.lt_of_lt_of_le hi h.size) hn).trans (h.block i hi hn)⟩
theorem grown_below {w w1 : World} (r : Option Nat) (h : Below w.heap.size w w1) : w.grownBy w1 r := ⟨h.os, h.tape, h.output, h.size, fun i hi _ => h.block i hi⟩
theorem grown_drew (w : World) (r : Option Nat) : w.grownBy w.drew r := grown_below r (below_drew w)
theorem grown_setRow (w : World) (g : Nat) (cs : Array Value) : w.grownBy (w.setRow g cs) (some g) := ⟨rfl, rfl, rfl, by simp [World.setRow], fun k _ hn => setRow_other w g k cs fun e => hn (by rw [e])⟩
theorem row_news {w : World} {b : Nat} {ys : List Value} {t : TypeId} (hy : w.heap[b]? = some (.cells ys.toArray t (0, 0))) : ∀ j u, ys[j]? = some u → w.cell? ((⟨b, 0, none⟩ : Addr).add j) = some u := by
 intro j u hj
 rw [Addr.add_lit, Nat.zero_add]
 exact cell_of hy (by simpa using hj)
theorem shift_list {A xs ys : List Value} {i s m : Nat} (hx : A.take m = xs) (hm : xs.length = m) (hi : i ≤ m) (hys : ys.length = s) (hA : m + s ≤ A.length) {A1 A2 : List Value} (h1 : A1 = A.take (i + s) ++ xs.drop i ++ A.drop (i + s + (xs.drop i).length)) (h2 : A2 = A1.take i ++ ys ++ A1.drop (i + ys.length)) :
 A1.length = A.length ∧ A2.length = A.length ∧ A2.take (m + s) = xs.take i ++ (ys ++ xs.drop i) := by
 have hd : (xs.drop i).length = m - i := by rw [List.length_drop, hm]
 have l1 : A1.length = A.length := by
  rw [h1]; simp only [List.length_append, List.length_take, List.length_drop, hd]; omega
 have l2 : A2.length = A.length := by
  rw [h2]; simp only [List.length_append, List.length_take, List.length_drop, l1, hys]; omega
 have e1 : A1.take i = xs.take i := by
  rw [h1, List.append_assoc, List.take_append_of_le_length (by rw [List.length_take]; omega), List.take_take, Nat.min_eq_left (by omega), ← hx, List.take_take, Nat.min_eq_left hi]
 have e2 : A1.drop (i + s) = xs.drop i ++ A.drop (i + s + (xs.drop i).length) := by
  rw [h1, List.append_assoc]
  exact List.drop_left' (by rw [List.length_take]; omega)
 refine ⟨l1, l2, ?_⟩
 rw [h2, e1, hys, e2, List.append_assoc, show m + s = (xs.take i).length + (s + (m - i)) by rw [List.length_take, hm]; omega, List.take_length_add_append, ← hys, List.take_length_add_append, ← hd]
 rw [List.take_left]
theorem grow_list {R xs ys : List Value} {i s m : Nat} (hm : xs.length = m) (hi : i ≤ m) (hys : ys.length = s) (hR : R.take i = xs.take i) (hl : m + s ≤ R.length) {R1 R2 : List Value} (h1 : R1 = R.take i ++ ys ++ R.drop (i + ys.length)) (h2 : R2 = R1.take (i + s) ++ xs.drop i ++ R1.drop (i + s + (xs.drop i).length)) :
 R1.length = R.length ∧ R2.length = R.length ∧ R2.take (m + s) = xs.take i ++ (ys ++ xs.drop i) := by
 have hd : (xs.drop i).length = m - i := by rw [List.length_drop, hm]
 have l1 : R1.length = R.length := by
  rw [h1]; simp only [List.length_append, List.length_take, List.length_drop, hys]; omega
 have l2 : R2.length = R.length := by
  rw [h2]; simp only [List.length_append, List.length_take, List.length_drop, l1, hd]; omega
 have e1 : R1.take (i + s) = xs.take i ++ ys := by
  rw [h1, hR]
  exact List.take_left' (by rw [List.length_append, List.length_take, hys]; omega)
 refine ⟨l1, l2, ?_⟩
 rw [h2, e1, List.append_assoc, List.append_assoc, show m + s = (xs.take i).length + (ys.length + (xs.drop i).length) by rw [List.length_take, hm, hd, hys]; omega, List.take_length_add_append, List.take_length_add_append, List.take_left]
end Go.Proofs.YtalmanfjiblhcaaGreat
