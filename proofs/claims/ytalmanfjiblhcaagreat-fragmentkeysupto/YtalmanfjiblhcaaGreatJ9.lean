/- What the laws' rows share: a label, and labels, among the arguments opened and shut again; Plain facts on the least text above all that begin with one. No program is in it; Plain facts on ranges of keys: what lies in one, what two have together, the range of a begin. No program is in it; Plain facts: chains of versions; keys in order with their chains. No program is in it; Plain facts: what nobody sees goes, key by key. -/
import Derived.Test.YtalmanfjiblhcaaGreatJ8
import Derived.Test.YtalmanfjiblhcaaGreatRows
import Derived.ProofKit
import Derived.LaidMore
import Derived.OpenShut
import Derived.Stop.Joined
import Derived.Lib.SmallJoins
import Derived.SizedLaws
import Derived.Deep.SlicePairs
import Derived.Carry
import Derived.Test.YtalmanfjiblhcaaGreatVMath
namespace Go.Proofs.YtalmanfjiblhcaaGreat.Lt
open Go.ChangeShapes Go.WideShapes Go.ChangeAt Go.RowKit Go.Joins
theorem own : ownKnob Tryz.prog.godebug = none := by kernel_rfl
theorem cellsL : Tryz.prog.cellsOf 70 = 2 := by kernel_rfl
theorem lab_range {n i : Nat} (r : Nat → Int) (c : Nat → Nat) (h : i < n) : lab ((List.range n).map fun i => (r i, c i)) i = (r i, c i) := by
 unfold lab
 rw [List.getD_eq_getElem?_getD, List.getElem?_map, List.getElem?_range h]
 rfl
end Go.Proofs.YtalmanfjiblhcaaGreat.Lt
namespace Go.Proofs.YtalmanfjiblhcaaGreat
open Go.Lib
def full (l : List UInt8) : Prop := ∀ c ∈ l, c.toNat = 255
end Go.Proofs.YtalmanfjiblhcaaGreat
namespace Go.Proofs.YtalmanfjiblhcaaGreat
open Go.Lib
structure Rg where
 f : ByteArray
 t : ByteArray
 hf : Bool
 ht : Bool
 pf : Bool
 pt : Bool
structure En where
 t : ByteArray
 h : Bool
 o : Bool
def sameb (a b : ByteArray) : Bool := !(ltb a b) && !(ltb b a)
theorem sameb_self (a : ByteArray) : sameb a a = true := by simp [sameb, ltb_irrefl]
theorem sameb_lt {a b : ByteArray} (h : ltb a b = true) : sameb a b = false := by simp [sameb, h]
theorem sameb_gt {a b : ByteArray} (h : ltb b a = true) : sameb a b = false := by simp [sameb, h]
def behR (r : Rg) (k : ByteArray) : Bool := !r.hf || ltb r.f k || (sameb k r.f && !r.pf)
def ahdR (r : Rg) (k : ByteArray) : Bool := !r.ht || ltb k r.t || (sameb k r.t && !r.pt)
def hasR (r : Rg) (k : ByteArray) : Bool := behR r k && ahdR r k
end Go.Proofs.YtalmanfjiblhcaaGreat
namespace Go.Proofs.YtalmanfjiblhcaaGreat
open Go.Lib
structure PV where
 cm : Int
 tx : ByteArray
 gn : Bool
def lastC (c : List PV) : Int := match c.getLast? with
 | none => 0
 | some v => v.cm
def withC (c : List PV) (v : PV) : List PV := if lastC c = v.cm then c.dropLast ++ [v] else c ++ [v]
def AscC (c : List PV) : Prop := c.Pairwise (fun x y => x.cm < y.cm) ∧ ∀ v ∈ c, 1 ≤ v.cm
def loC (c : List PV) (t : Int) : List PV := c.filter fun v => decide (v.cm ≤ t)
def upC (c : List PV) (t : Int) : Nat := (loC c t).length
def asC (c : List PV) (t : Int) : Option PV := (loC c t).getLast?
def rowO : Option PV → Option ByteArray
 | none => none
 | some v => if v.gn then none else some v.tx
def rowC (c : List PV) (t : Int) : Option ByteArray := rowO (asC c t)
theorem last_snoc (c : List PV) (v : PV) : lastC (c ++ [v]) = v.cm := by simp [lastC]
theorem asc_nil : AscC [] := ⟨List.Pairwise.nil, fun _ h => by cases h⟩
theorem AscC.tail {v : PV} {c : List PV} (h : AscC (v :: c)) : AscC c := ⟨(List.pairwise_cons.1 h.1).2, fun u hu => h.2 u (by simp [hu])⟩
theorem AscC.le_last {c : List PV} (h : AscC c) {v : PV} (hv : v ∈ c) : v.cm ≤ lastC c := by
 rcases List.eq_nil_or_concat c with rfl | ⟨d, u, rfl⟩
 · cases hv
 · rw [List.concat_eq_append] at h hv ⊢
   rw [last_snoc]
   rcases List.mem_append.1 hv with hv | hv
   · exact Int.le_of_lt ((List.pairwise_append.1 h.1).2.2 v hv u (by simp))
   · rw [List.mem_singleton.1 hv]; exact Int.le_refl _
theorem AscC.dropLast_lt {c : List PV} (h : AscC c) {v : PV} (hv : v ∈ c.dropLast) : v.cm < lastC c := by
 rcases List.eq_nil_or_concat c with rfl | ⟨d, u, rfl⟩
 · cases hv
 · rw [List.concat_eq_append] at h hv ⊢
   rw [last_snoc]
   rw [List.dropLast_concat] at hv
   exact (List.pairwise_append.1 h.1).2.2 v hv u (by simp)
theorem AscC.with {c : List PV} (h : AscC c) {v : PV} (h1 : 1 ≤ v.cm) (hl : lastC c ≤ v.cm) : AscC (withC c v) := by
 unfold withC
 split
 · rename_i e
   refine ⟨List.pairwise_append.2 ⟨h.1.sublist (List.dropLast_sublist c), by simp, fun x hx y hy => ?_⟩, fun x hx => ?_⟩
   · rw [List.mem_singleton.1 hy, ← e]; exact h.dropLast_lt hx
   · rcases List.mem_append.1 hx with hx | hx
     · exact h.2 x ((List.dropLast_sublist c).subset hx)
     · rw [List.mem_singleton.1 hx]; exact h1
 · rename_i e
   refine ⟨List.pairwise_append.2 ⟨h.1, by simp, fun x hx y hy => ?_⟩, fun x hx => ?_⟩
   · rw [List.mem_singleton.1 hy]
     have := h.le_last hx
     omega
   · rcases List.mem_append.1 hx with hx | hx
     · exact h.2 x hx
     · rw [List.mem_singleton.1 hx]; exact h1
theorem with_ne (c : List PV) (v : PV) : withC c v ≠ [] := by unfold withC; split <;> simp
theorem with_len (c : List PV) (v : PV) : (withC c v).length ≤ c.length + 1 := by unfold withC; split <;> simp
theorem last_with (c : List PV) (v : PV) : lastC (withC c v) = v.cm := by unfold withC; split <;> rw [last_snoc]
theorem lo_take : ∀ {c : List PV}, AscC c → ∀ t, loC c t = c.take (upC c t)
 | [], _, t => rfl
 | v :: c, h, t => by
   have ih := lo_take h.tail t
   by_cases q : v.cm ≤ t
   · have e : loC (v :: c) t = v :: loC c t := List.filter_cons_of_pos (by simpa using q)
     unfold upC at ih ⊢
     rw [e, List.length_cons, List.take_succ_cons, ← ih]
   · have e : loC (v :: c) t = [] := List.filter_eq_nil_iff.2 fun u hu => by
      rcases List.mem_cons.1 hu with rfl | hu
      · simpa using q
      · have := (List.pairwise_cons.1 h.1).1 u hu
        simp; omega
     unfold upC
     rw [e]; rfl
theorem up_le (c : List PV) (t : Int) : upC c t ≤ c.length := List.length_filter_le _ _
theorem up_at {c : List PV} (h : AscC c) (t : Int) {i : Nat} {v : PV} (hi : c[i]? = some v) : t < v.cm ↔ upC c t ≤ i := by
 have e := lo_take h t
 constructor
 · intro q
   rcases Nat.lt_or_ge i (upC c t) with hl | hl
   · have : v ∈ loC c t := by
      rw [e]; exact List.mem_of_getElem? (i := i) (by rw [List.getElem?_take, if_pos hl]; exact hi)
     have := (List.mem_filter.1 this).2
     simp at this; omega
   · exact hl
 · intro q
   refine Int.not_le.1 fun hv => ?_
   have hm : v ∈ c.take (upC c t) := by
    rw [← e]; exact List.mem_filter.2 ⟨List.mem_of_getElem? hi, by simpa using hv⟩
   obtain ⟨j, hj⟩ := List.getElem?_of_mem hm
   rw [List.getElem?_take] at hj
   split at hj
   · rename_i hjl
     obtain ⟨h1, e1⟩ := List.getElem?_eq_some_iff.1 hi
     obtain ⟨h2, e2⟩ := List.getElem?_eq_some_iff.1 hj
     have := List.pairwise_iff_getElem.1 h.1 j i h2 h1 (by omega)
     rw [e1, e2] at this
     omega
   · cases hj
theorem as_at {c : List PV} (h : AscC c) (t : Int) : asC c t = if upC c t = 0 then none else c[upC c t - 1]? := by
 unfold asC
 split
 · rename_i e
   rw [List.eq_nil_of_length_eq_zero e]; rfl
 · rename_i e
   have hl := up_le c t
   rw [lo_take h t, List.getLast?_eq_getElem?, List.length_take, Nat.min_eq_left hl, List.getElem?_take, if_pos (by omega)]
abbrev Ct := PIt (List PV)
def chM (k : ByteArray) (m : List Ct) : List PV := (get k m).getD []
def putM (k : ByteArray) (v : PV) (m : List Ct) : List Ct := ins k (withC (chM k m) v) m
def nVer (m : List Ct) : Nat := (m.map fun x => x.2.length).sum
def selM (r : Rg) (m : List Ct) : List Ct := m.filter fun x => hasR r x.1
def rowsM (r : Rg) (t : Int) (m : List Ct) : List (ByteArray × ByteArray) := (selM r m).filterMap fun x => (rowC x.2 t).map fun y => (x.1, y)
structure OkM (m : List Ct) : Prop where
 srt : Srt m
 asc : ∀ x ∈ m, AscC x.2
 ne : ∀ x ∈ m, x.2 ≠ []
theorem mem_get {α : Type} {m : List (PIt α)} (hs : Srt m) {x : PIt α} (hx : x ∈ m) : get x.1 m = some x.2 := by
 obtain ⟨A, B, rfl⟩ := List.append_of_mem hx
 have hp := List.pairwise_append.1 hs
 obtain ⟨k, u⟩ := x
 exact get_at fun y hy => hp.2.2 y hy (k, u) (by simp)
theorem get_mem {α : Type} {m : List (PIt α)} {k : ByteArray} {v : α} (h : get k m = some v) : (k, v) ∈ m := by
 unfold get at h
 obtain ⟨x, hx, rfl⟩ := Option.map_eq_some_iff.1 h
 have h1 := List.find?_some hx
 have h2 := List.mem_of_find?_eq_some hx
 simp only [Bool.and_eq_true, Bool.not_eq_true'] at h1
 rw [← ltb_total h1.1 h1.2]
 exact h2
theorem mem_ins {α : Type} {m : List (PIt α)} {k : ByteArray} {v : α} {x : PIt α} : x ∈ ins k v m ↔ x = (k, v) ∨ (x ∈ m ∧ (ltb x.1 k = true ∨ ltb k x.1 = true)) := by
 unfold ins
 rw [List.mem_append, List.mem_cons, mem_lo, mem_hi]
 constructor
 · rintro (⟨h1, h2⟩ | h | ⟨h1, h2⟩)
   · exact .inr ⟨h1, .inl h2⟩
   · exact .inl h
   · exact .inr ⟨h1, .inr h2⟩
 · rintro (h | ⟨h1, h2 | h2⟩)
   · exact .inr (.inl h)
   · exact .inl ⟨h1, h2⟩
   · exact .inr (.inr ⟨h1, h2⟩)
theorem OkM.ch {m : List Ct} (h : OkM m) (k : ByteArray) : AscC (chM k m) := by
 unfold chM
 cases e : get k m with
 | none => exact asc_nil
 | some c => exact h.asc _ (get_mem e)
theorem OkM.put {m : List Ct} (h : OkM m) {k : ByteArray} {v : PV} (h1 : 1 ≤ v.cm) (hl : lastC (chM k m) ≤ v.cm) : OkM (putM k v m) := by
 refine ⟨h.srt.ins k _, fun x hx => ?_, fun x hx => ?_⟩
 · rcases mem_ins.1 hx with rfl | ⟨hx, _⟩
   · exact (h.ch k).with h1 hl
   · exact h.asc x hx
 · rcases mem_ins.1 hx with rfl | ⟨hx, _⟩
   · exact with_ne _ _
   · exact h.ne x hx
theorem ok_nil : OkM [] := ⟨List.Pairwise.nil, fun _ h => (by cases h), fun _ h => (by cases h)⟩
def mapV {α β : Type} (f : α → β) (l : List (PIt α)) : List (PIt β) := l.map fun x => (x.1, f x.2)
theorem mapV_lo {α β : Type} (f : α → β) (k : ByteArray) (l : List (PIt α)) : lo k (mapV f l) = mapV f (lo k l) := by
 unfold lo mapV; rw [List.filter_map]; rfl
theorem mapV_hi {α β : Type} (f : α → β) (k : ByteArray) (l : List (PIt α)) : hi k (mapV f l) = mapV f (hi k l) := by
 unfold hi mapV; rw [List.filter_map]; rfl
theorem mapV_ins {α β : Type} (f : α → β) (k : ByteArray) (v : α) (l : List (PIt α)) : mapV f (ins k v l) = ins k (f v) (mapV f l) := by
 unfold ins
 rw [mapV_lo, mapV_hi]
 simp [mapV]
theorem mapV_get {α β : Type} (f : α → β) (k : ByteArray) (l : List (PIt α)) : get k (mapV f l) = (get k l).map f := by
 unfold get mapV
 rw [List.find?_map, Option.map_map, Option.map_map]
 rfl
theorem nVer_append (a b : List Ct) : nVer (a ++ b) = nVer a + nVer b := by simp [nVer]
theorem nVer_cons (x : Ct) (b : List Ct) : nVer (x :: b) = x.2.length + nVer b := by simp [nVer]
theorem ins_cut {m : List Ct} (h : Srt m) (k : ByteArray) : nVer m = nVer (lo k m) + (chM k m).length + nVer (hi k m) := by
 unfold chM
 rcases h.about k with ⟨e, g⟩ | ⟨u, e, g⟩
 · rw [g]
   conv => lhs; rw [e]
   rw [nVer_append]; simp
 · rw [g]
   conv => lhs; rw [e]
   rw [nVer_append, nVer_cons]; simp; omega
theorem nVer_ins {m : List Ct} (h : Srt m) (k : ByteArray) (c : List PV) : nVer (ins k c m) + (chM k m).length = nVer m + c.length := by
 rw [ins_cut h k]
 unfold ins
 rw [nVer_append, nVer_cons]; simp only []; omega
theorem nVer_put {m : List Ct} (h : Srt m) (k : ByteArray) (v : PV) : nVer (putM k v m) ≤ nVer m + 1 := by
 have := nVer_ins h k (withC (chM k m) v)
 have h2 := with_len (chM k m) v
 unfold putM
 omega
theorem ch_le {m : List Ct} (h : Srt m) (k : ByteArray) : (chM k m).length ≤ nVer m := by
 rw [ins_cut h k]; omega
theorem OkM.len : ∀ {m : List Ct}, OkM m → m.length ≤ nVer m
 | [], _ => Nat.le_refl _
 | x :: m, h => by
   have := OkM.len (m := m) ⟨(List.pairwise_cons.1 h.srt).2, fun y hy => h.asc y (by simp [hy]), fun y hy => h.ne y (by simp [hy])⟩
   have h1 : 0 < x.2.length := List.length_pos_iff.2 (h.ne x (by simp))
   rw [nVer_cons, List.length_cons]; omega
theorem ins_congr {α β : Type} {f f' : α → β} {k : ByteArray} {z : β} {l : List (PIt α)} (h : ∀ x ∈ l, (ltb x.1 k = true ∨ ltb k x.1 = true) → f' x.2 = f x.2) : ins k z (mapV f' l) = ins k z (mapV f l) := by
 unfold ins
 rw [mapV_lo, mapV_hi, mapV_lo, mapV_hi]
 have e1 : mapV f' (lo k l) = mapV f (lo k l) := List.map_congr_left fun x hx => by rw [h x (mem_lo.1 hx).1 (.inl (mem_lo.1 hx).2)]
 have e2 : mapV f' (hi k l) = mapV f (hi k l) := List.map_congr_left fun x hx => by rw [h x (mem_hi.1 hx).1 (.inr (mem_hi.1 hx).2)]
 rw [e1, e2]
end Go.Proofs.YtalmanfjiblhcaaGreat
namespace Go.Proofs.YtalmanfjiblhcaaGreat
theorem get_ins {α : Type} (l : List (PIt α)) (k : ByteArray) (v : α) : get k (ins k v l) = some v := by
 unfold ins
 exact get_at fun x hx => (mem_lo.1 hx).2
theorem get_lo {α : Type} {l : List (PIt α)} {k q : ByteArray} (h : ltb q k = true) : get q (lo k l) = get q l := by
 unfold get lo
 rw [List.find?_filter]
 congr 2
 funext x
 by_cases e : (!(ltb x.1 q) && !(ltb q x.1)) = true
 · simp only [Bool.and_eq_true, Bool.not_eq_true'] at e
   rw [ltb_total e.1 e.2, h]; simp
 · rw [Bool.eq_false_iff.2 e]; simp
theorem get_hi {α : Type} {l : List (PIt α)} {k q : ByteArray} (h : ltb k q = true) : get q (hi k l) = get q l := by
 unfold get hi
 rw [List.find?_filter]
 congr 2
 funext x
 by_cases e : (!(ltb x.1 q) && !(ltb q x.1)) = true
 · simp only [Bool.and_eq_true, Bool.not_eq_true'] at e
   rw [ltb_total e.1 e.2, h]; simp
 · rw [Bool.eq_false_iff.2 e]; simp
theorem get_ins_other {α : Type} {l : List (PIt α)} {k q : ByteArray} (v : α) (hne : q ≠ k) : get q (ins k v l) = get q l := by
 rcases ltb_cases q k with h | h | h
 · unfold ins
   rw [get_cut (fun x hx => by
    rcases List.mem_cons.1 hx with rfl | hx
    · exact h
    · exact ltb_trans h (mem_hi.1 hx).2), get_lo h]
 · exact absurd h hne
 · unfold ins
   have e : lo k l ++ (k, v) :: hi k l = (lo k l ++ [(k, v)]) ++ hi k l := by simp
   rw [e, get_skip (fun x hx => by
    rcases List.mem_append.1 hx with hx | hx
    · exact ltb_trans (mem_lo.1 hx).2 h
    · rw [List.mem_singleton.1 hx]; exact h), get_hi h]
end Go.Proofs.YtalmanfjiblhcaaGreat
