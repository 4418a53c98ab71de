/- Tables plainly: names, what is wrong with a table, its text, and what both readers guess of a text. No program is walked in it. -/
import Derived.Lib.Split
import Derived.Lib.Join
import Derived.Lib.Strings
namespace Go.Proofs.YtlgnllnjhpihdaaDoor
open Go.Lib

/-- A column. -/
structure Col where
  nm : ByteArray
  k : Int
  key : Bool
  nul : Bool
/-- A table. -/
structure Tab where
  nm : ByteArray
  cs : List Col
/-- The reserved words. -/
def words : List (List UInt8) := [[97, 110, 100],
  [97, 115],
  [97, 115, 99],
  [98, 101, 103, 105, 110],
  [98, 111, 111, 108],
  [98, 121],
  [99, 111, 109, 109, 105, 116],
  [99, 111, 117, 110, 116],
  [100, 101, 108, 101, 116, 101],
  [100, 101, 115, 99],
  [101, 120, 112, 108, 97, 105, 110],
  [102, 97, 108, 115, 101],
  [102, 114, 111, 109],
  [103, 114, 111, 117, 112],
  [105, 110, 115, 101, 114, 116],
  [105, 110, 116],
  [105, 110, 116, 111],
  [105, 115],
  [107, 101, 121],
  [108, 97, 98, 101, 108],
  [108, 105, 109, 105, 116],
  [109, 97, 120],
  [109, 105, 110],
  [110, 111, 116],
  [110, 117, 108, 108],
  [111, 114],
  [111, 114, 100, 101, 114],
  [114, 101, 108, 101, 97, 115, 101],
  [114, 111, 108, 108, 98, 97, 99, 107],
  [115, 101, 108, 101, 99, 116],
  [115, 101, 116],
  [115, 117, 109],
  [116, 97, 98, 108, 101],
  [116, 101, 120, 116],
  [116, 114, 117, 101],
  [117, 112, 100, 97, 116, 101],
  [118, 97, 108, 117, 101, 115],
  [118, 105, 101, 119],
  [119, 104, 101, 114, 101]]
def resL (l : List UInt8) : Bool := words.any fun x => x == l
def smallB (c : UInt8) : Bool := decide (97 ≤ c.toNat) && decide (c.toNat ≤ 122)
def digitB (c : UInt8) : Bool := decide (48 ≤ c.toNat) && decide (c.toNat ≤ 57)
/-- What may stand in a name. -/
def okB (c : UInt8) : Bool := smallB c || digitB c || decide (c.toNat = 95)
def headOk : List UInt8 → Bool
  | [] => false
  | c :: _ => smallB c
def nameL (l : List UInt8) : Bool := headOk l && decide (l.length ≤ 32) && l.all okB && !resL l
/-- A text as bytes. -/
def lst (s : ByteArray) : List UInt8 := s.data.toList
def ofL (l : List UInt8) : ByteArray := ⟨l.toArray⟩
theorem lst_ofL (l : List UInt8) : lst (ofL l) = l := by simp [lst, ofL]
theorem ofL_lst (s : ByteArray) : ofL (lst s) = s := by simp [lst, ofL]
theorem lst_inj {s t : ByteArray} (h : lst s = lst t) : s = t := by rw [← ofL_lst s, h, ofL_lst]
/-- What is wrong with a column behind others, by its number. -/
def colE (c : Col) (ahead : List Col) : Int :=
  if nameL (lst c.nm) = false then 30 else if ahead.any (fun d => lst d.nm == lst c.nm) = true then 9 else if ¬ (c.k = 1 ∨ c.k = 2 ∨ c.k = 3) then 7 else if (c.key && c.nul) = true then 33 else 0
def colsE (ahead : List Col) : List Col → Int
  | [] => 0
  | c :: r => if colE c ahead ≠ 0 then colE c ahead else colsE (ahead ++ [c]) r
/-- What is wrong with a table. -/
def chkT (t : Tab) : Int :=
  if nameL (lst t.nm) = false then 30 else if t.cs.length = 0 then 1 else if 16 < t.cs.length then 2 else if colsE [] t.cs ≠ 0 then colsE [] t.cs else if t.cs.any (·.key) = true then 0 else 8
theorem colsE_at : ∀ (i : Nat) (ah cs : List Col), (∀ j (h : j < cs.length), j < i → colE cs[j] (ah ++ cs.take j) = 0) → colsE ah cs = colsE (ah ++ cs.take i) (cs.drop i)
  | 0, ah, cs, _ => by simp
  | i + 1, ah, [], _ => by simp [colsE]
  | i + 1, ah, c :: cs, h => by
    have h0 : colE c ah = 0 := by
      have := h 0 (by simp) (by omega)
      rw [List.take_zero, List.append_nil] at this
      exact this
    rw [colsE, h0, if_neg (by simp), colsE_at i (ah ++ [c]) cs (fun j hj hji => by
      have := h (j + 1) (by simp; omega) (by omega)
      simpa using this)]
    simp
theorem colsE_bad {cs : List Col} {i : Nat} (hi : i < cs.length) (h : ∀ j (h : j < cs.length), j < i → colE cs[j] (cs.take j) = 0) {E : Int} (hE : colE cs[i] (cs.take i) = E) (h0 : E ≠ 0) : colsE [] cs = E := by
  rw [colsE_at i [] cs (by simpa using h), List.drop_eq_getElem_cons hi, colsE]
  simp only [List.nil_append]
  rw [hE, if_pos h0]
theorem colsE_ok {cs : List Col} (h : ∀ j (h : j < cs.length), colE cs[j] (cs.take j) = 0) : colsE [] cs = 0 := by
  rw [colsE_at cs.length [] cs (fun j hj _ => by simpa using h j hj), List.drop_length]; rfl
theorem colsE_zero : ∀ (cs ah : List Col), colsE ah cs = 0 → ∀ j (h : j < cs.length), colE cs[j] (ah ++ cs.take j) = 0
  | [], _, _, j, h => by simp at h
  | c :: cs, ah, hz, j, h => by
    rw [colsE] at hz
    by_cases h0 : colE c ah = 0
    · rw [if_neg (by simp [h0])] at hz
      cases j with
      | zero => simpa using h0
      | succ j =>
        have := colsE_zero cs (ah ++ [c]) hz j (by simpa using h)
        simpa using this
    · rw [if_pos h0] at hz; exact absurd hz h0
/-- Words of kinds. -/
def kindW (k : Int) : List UInt8 := if k = 1 then [73, 78, 84] else if k = 2 then [84, 69, 88, 84] else if k = 3 then [66, 79, 79, 76] else []
/-- A column as a text. -/
def colT (c : Col) : List UInt8 := lst c.nm ++ 32 :: (kindW c.k ++ if c.key = true then [32, 75, 69, 89] else if c.nul = true then [32, 78, 85, 76, 76] else [])
def headW : List UInt8 := [84, 65, 66, 76, 69, 32]
/-- A table as a text. -/
def txtT (t : Tab) : List UInt8 := headW ++ (lst t.nm ++ ([32, 40] ++ (join (t.cs.map colT) [44, 32] ++ [41])))
/-- A kind's number. -/
def kindN (l : List UInt8) : Int := if l = [73, 78, 84] then 1 else if l = [84, 69, 88, 84] then 2 else if l = [66, 79, 79, 76] then 3 else 0
/-- A column that is guessed. -/
def gCol (s : List UInt8) : Col :=
  ⟨ofL (cut s [32]).1, kindN (cut (cut s [32]).2.1 [32]).1, (cut (cut s [32]).2.1 [32]).2.1 == [75, 69, 89], (cut (cut s [32]).2.1 [32]).2.1 == [78, 85, 76, 76]⟩
/-- What the program guesses. -/
def gPro (s : List UInt8) : Tab :=
  ⟨ofL (cut (trimPrefix s headW) [32, 40]).1, (splitN (trimSuffix (cut (trimPrefix s headW) [32, 40]).2.1 [41]) [44, 32] 17).map gCol⟩
/-- What the document guesses. -/
def gDoc (s : List UInt8) : Tab :=
  ⟨ofL (cut (cut s headW).2.1 [32, 40]).1, (splitK [44, 32] 0 s.length (cut (cut (cut s headW).2.1 [32, 40]).2.1 [41]).1).map gCol⟩

/-! ### Parts of a text -/
theorem occ_head {a b : List UInt8} {c : UInt8} {t : List UInt8} (h : ∀ x ∈ a, x ≠ c) : ∀ j, j < a.length → occAt (a ++ b) (c :: t) j = false := by
  intro j hj
  cases e : occAt (a ++ b) (c :: t) j with
  | false => rfl
  | true =>
    have := occAt_head rfl e
    rw [List.getElem?_append_left hj, List.getElem?_eq_getElem hj] at this
    exact absurd (Option.some.inj this) (h _ (List.getElem_mem hj))
theorem index_part {a b : List UInt8} {c : UInt8} {t : List UInt8} (h : ∀ x ∈ a, x ≠ c) : index (a ++ (c :: t ++ b)) (c :: t) = a.length := by
  refine index_first (by simp) ?_ (occ_head h)
  unfold occAt
  rw [List.drop_left]
  exact List.isPrefixOf_iff_prefix.2 ⟨b, rfl⟩
theorem index_no {a : List UInt8} {c : UInt8} {t : List UInt8} (h : ∀ x ∈ a, x ≠ c) : index a (c :: t) = -1 := by
  refine index_none fun j hj => ?_
  rcases Nat.lt_or_ge j a.length with hl | hl
  · have := occ_head (b := []) (t := t) h j hl
    rwa [List.append_nil] at this
  · cases e : occAt a (c :: t) j with
    | false => rfl
    | true =>
      have := occAt_head rfl e
      rw [List.getElem?_eq_none hl] at this
      cases this
theorem cut_part {a b : List UInt8} {c : UInt8} {t : List UInt8} (h : ∀ x ∈ a, x ≠ c) : cut (a ++ (c :: t ++ b)) (c :: t) = (a, b, true) := by
  unfold cut
  rw [index_part h, if_pos (by omega)]
  simp only [Int.toNat_natCast]
  rw [List.take_left, show a.length + (c :: t).length = (a ++ (c :: t)).length by simp, ← List.append_assoc, List.drop_left]
theorem cut_no {a : List UInt8} {c : UInt8} {t : List UInt8} (h : ∀ x ∈ a, x ≠ c) : cut a (c :: t) = (a, [], false) := by
  unfold cut
  rw [index_no h, if_neg (by omega)]
theorem trim_head (p s : List UInt8) : trimPrefix (p ++ s) p = s := by
  unfold trimPrefix hasPrefix
  rw [if_pos (List.isPrefixOf_iff_prefix.2 ⟨s, rfl⟩), List.drop_left]
theorem trim_end (p s : List UInt8) : trimSuffix (s ++ p) p = s := by
  unfold trimSuffix hasSuffix
  rw [if_pos (List.isSuffixOf_iff_suffix.2 ⟨s, rfl⟩), List.length_append, Nat.add_sub_cancel, List.take_left]

/-! ### What a right table's text is read as -/
theorem name_ok {l : List UInt8} (h : nameL l = true) : (∀ x ∈ l, okB x = true) ∧ l.length ≤ 32 ∧ 0 < l.length := by
  unfold nameL at h
  simp only [Bool.and_eq_true, decide_eq_true_eq] at h
  obtain ⟨⟨⟨h1, h2⟩, h3⟩, _⟩ := h
  refine ⟨fun x hx => List.all_eq_true.1 h3 x hx, h2, ?_⟩
  cases l with
  | nil => simp [headOk] at h1
  | cons a l => simp
theorem ok_ne {x : UInt8} (h : okB x = true) {c : UInt8} (hc : okB c = false) : x ≠ c := fun e => by rw [e, hc] at h; cases h
structure RightC (c : Col) : Prop where
  nm : nameL (lst c.nm) = true
  k : c.k = 1 ∨ c.k = 2 ∨ c.k = 3
  kn : (c.key && c.nul) = false
theorem right_of_zero {c : Col} {ah : List Col} (h : colE c ah = 0) : RightC c := by
  unfold colE at h
  split at h
  · simp at h
  rename_i h1
  split at h
  · simp at h
  split at h
  · simp at h
  rename_i h2
  split at h
  · simp at h
  rename_i h3
  exact ⟨by simpa using h1, Classical.not_not.1 h2, by simpa using h3⟩
structure RightT (t : Tab) : Prop where
  nm : nameL (lst t.nm) = true
  pos : 0 < t.cs.length
  len : t.cs.length ≤ 16
  cols : ∀ c ∈ t.cs, RightC c
theorem right_of_chk {t : Tab} (h : chkT t = 0) : RightT t := by
  unfold chkT at h
  split at h
  · simp at h
  rename_i h1
  split at h
  · simp at h
  rename_i h2
  split at h
  · simp at h
  rename_i h3
  split at h
  · rename_i h4; exact absurd h h4
  rename_i h4
  refine ⟨by simpa using h1, by omega, by omega, fun c hc => ?_⟩
  obtain ⟨j, hj, rfl⟩ := List.getElem_of_mem hc
  exact right_of_zero (colsE_zero t.cs [] (by simpa using h4) j hj)
theorem kind_bytes {k : Int} : ∀ x ∈ kindW k, 65 ≤ x.toNat := by
  unfold kindW
  split
  · decide
  split
  · decide
  split
  · decide
  · simp
theorem kindN_W {k : Int} (h : k = 1 ∨ k = 2 ∨ k = 3) : kindN (kindW k) = k := by
  rcases h with rfl | rfl | rfl <;> decide
theorem colT_bytes {c : Col} (h : RightC c) : ∀ x ∈ colT c, x ≠ 44 ∧ x ≠ 41 := by
  intro x hx
  unfold colT at hx
  rw [List.mem_append, List.mem_cons, List.mem_append] at hx
  rcases hx with hx | rfl | hx | hx
  · have := (name_ok h.nm).1 x hx
    exact ⟨ok_ne this (by decide), ok_ne this (by decide)⟩
  · decide
  · have := kind_bytes x hx
    constructor <;> (rintro rfl; revert this; decide)
  · split at hx
    · revert x; decide
    split at hx
    · revert x; decide
    · simp at hx
theorem gCol_T {c : Col} (h : RightC c) : gCol (colT c) = c := by
  have h1 : ∀ x ∈ lst c.nm, x ≠ 32 := fun x hx => ok_ne ((name_ok h.nm).1 x hx) (by decide)
  have hk : ∀ x ∈ kindW c.k, x ≠ 32 := fun x hx => by
    have := kind_bytes x hx
    rintro rfl; revert this; decide
  have e1 : ∀ r, cut (lst c.nm ++ 32 :: r) [32] = (lst c.nm, r, true) := fun r => cut_part (t := []) h1
  have e2 : ∀ r, cut (kindW c.k ++ 32 :: r) [32] = (kindW c.k, r, true) := fun r => cut_part (t := []) hk
  have e3 : cut (kindW c.k) [32] = (kindW c.k, [], false) := cut_no hk
  obtain ⟨nm, k, key, nul⟩ := c
  have hkn := h.kn
  have hkk := kindN_W h.k
  simp only at hkn hkk e1 e2 e3
  unfold gCol colT
  simp only [e1]
  cases key <;> cases nul <;> simp only [Bool.false_eq_true, if_false, if_true, List.append_nil, e2, e3, hkk, ofL_lst] <;> first | rfl | cases hkn
theorem join_two (x y : List UInt8) (r : List (List UInt8)) (sep : List UInt8) : join (x :: y :: r) sep = x ++ (sep ++ join (y :: r) sep) := by
  rw [join_cons, join_cons]
  simp [joinTail, List.append_assoc]
theorem split_cols : ∀ (cs : List Col) (n : Nat), (∀ c ∈ cs, RightC c) → 0 < cs.length → cs.length ≤ n + 1 → splitK [44, 32] 0 n (join (cs.map colT) [44, 32]) = cs.map colT
  | [], _, _, h, _ => by simp at h
  | [c], n, hr, _, _ => by
    simp only [List.map_cons, List.map_nil, join_one]
    cases n with
    | zero => rfl
    | succ n => rw [splitK, index_no (fun x hx => (colT_bytes (hr c (by simp)) x hx).1)]; rfl
  | c :: d :: cs, 0, _, _, hl => by simp at hl
  | c :: d :: cs, n + 1, hr, _, hl => by
    have e : join ((c :: d :: cs).map colT) [44, 32] = colT c ++ (44 :: [32] ++ join ((d :: cs).map colT) [44, 32]) := by
      simp only [List.map_cons]
      rw [join_two]
    have hi : index (colT c ++ (44 :: [32] ++ join ((d :: cs).map colT) [44, 32])) (44 :: [32]) = (colT c).length := index_part (fun x hx => (colT_bytes (hr c (by simp)) x hx).1)
    have ih := split_cols (d :: cs) n (fun c' hc' => hr c' (by simp at hc' ⊢; exact .inr hc')) (by simp) (by simp at hl ⊢; omega)
    rw [e, splitK, hi, if_neg (by simp)]
    simp only [Int.toNat_natCast, Nat.add_zero]
    rw [List.take_left, show (colT c).length + (44 :: [32] : List UInt8).length = (colT c ++ (44 :: [32])).length by simp, ← List.append_assoc, List.drop_left, ih]
    rfl
theorem join_long (cs : List Col) (h : 0 < cs.length) : cs.length ≤ (join (cs.map colT) [44, 32]).length + 1 := by
  cases cs with
  | nil => simp at h
  | cons c cs =>
    rw [List.map_cons, join_length]
    simp; omega
theorem map_gCol (cs : List Col) (h : ∀ c ∈ cs, RightC c) : (cs.map colT).map gCol = cs := by
  rw [List.map_map]
  conv => rhs; rw [← List.map_id cs]
  exact List.map_congr_left fun c hc => gCol_T (h c hc)
theorem gPro_T {t : Tab} (h : RightT t) : gPro (txtT t) = t := by
  have h1 : ∀ x ∈ lst t.nm, x ≠ 32 := fun x hx => ok_ne ((name_ok h.nm).1 x hx) (by decide)
  have e : ∀ r, cut (lst t.nm ++ ([32, 40] ++ r)) [32, 40] = (lst t.nm, r, true) := fun r => cut_part (t := [40]) h1
  have hl := join_long t.cs h.pos
  have hl2 := h.len
  have e2 := split_cols t.cs (min 17 ((join (t.cs.map colT) [44, 32]).length + 1) - 1) h.cols h.pos (by omega)
  unfold gPro txtT
  rw [trim_head]
  simp only [e]
  rw [trim_end]
  unfold splitN
  rw [e2, map_gCol t.cs h.cols, ofL_lst]
theorem join_no41 : ∀ cs : List Col, (∀ c ∈ cs, RightC c) → ∀ x ∈ join (cs.map colT) [44, 32], x ≠ 41
  | [], _ => by simp [join_nil]
  | [c], hr => by
    simp only [List.map_cons, List.map_nil, join_one]
    exact fun x hx => (colT_bytes (hr c (by simp)) x hx).2
  | c :: d :: cs, hr => by
    simp only [List.map_cons]
    rw [join_two]
    intro x hx
    rw [List.mem_append, List.mem_append] at hx
    rcases hx with hx | hx | hx
    · exact (colT_bytes (hr c (by simp)) x hx).2
    · revert x; decide
    · exact join_no41 (d :: cs) (fun c' hc' => hr c' (by simp at hc' ⊢; exact .inr hc')) x hx
theorem gDoc_T {t : Tab} (h : RightT t) : gDoc (txtT t) = t := by
  have h1 : ∀ x ∈ lst t.nm, x ≠ 32 := fun x hx => ok_ne ((name_ok h.nm).1 x hx) (by decide)
  have e : ∀ r, cut (lst t.nm ++ ([32, 40] ++ r)) [32, 40] = (lst t.nm, r, true) := fun r => cut_part (t := [40]) h1
  have e0 : ∀ r, cut (headW ++ r) headW = ([], r, true) := fun r => cut_part (a := []) (b := r) (c := 84) (t := [65, 66, 76, 69, 32]) (by simp)
  have e1 : cut (join (t.cs.map colT) [44, 32] ++ [41]) [41] = (join (t.cs.map colT) [44, 32], [], true) := cut_part (t := []) (b := []) (join_no41 t.cs h.cols)
  have hl := join_long t.cs h.pos
  have e2 := split_cols t.cs (txtT t).length h.cols h.pos (by
    have : (join (t.cs.map colT) [44, 32]).length ≤ (txtT t).length := by unfold txtT; simp; omega
    omega)
  unfold gDoc
  rw [show cut (txtT t) headW = ([], lst t.nm ++ ([32, 40] ++ (join (t.cs.map colT) [44, 32] ++ [41])), true) from e0 _]
  simp only [e, e1]
  rw [e2, map_gCol t.cs h.cols, ofL_lst]
/-- What is read of a text. -/
def IsText (t : Tab) (s : List UInt8) : Prop := chkT t = 0 ∧ txtT t = s
theorem isText_pro {t : Tab} {s : List UInt8} (h : IsText t s) : gPro s = t := by rw [← h.2]; exact gPro_T (right_of_chk h.1)
theorem isText_doc {t : Tab} {s : List UInt8} (h : IsText t s) : gDoc s = t := by rw [← h.2]; exact gDoc_T (right_of_chk h.1)
theorem told_same (s : List UInt8) : IsText (gPro s) s ↔ IsText (gDoc s) s :=
  ⟨fun h => by rw [isText_doc h]; exact h, fun h => by rw [isText_pro h]; exact h⟩
end Go.Proofs.YtlgnllnjhpihdaaDoor
