/- The walks of the document's Find and New; The walk of table's New. -/
import Derived.Test.YtalmanfjiblhcaaGreatJ7
import Derived.Test.YtalmanfjiblhcaaGreatJ19
namespace Go.Proofs.YtalmanfjiblhcaaGreat.Tb
open Go.RowKit Go.Sort
def dupB (ts : List TV) (i : Nat) : Bool := match ts[i]? with
 | some t => (ts.take i).any (isNT t.nm)
 | none => false
def chkAll : List TV → Int
 | [] => 0
 | t :: r => if chkT t.tab ≠ 0 then chkT t.tab else chkAll r
theorem chkAll_bad : ∀ {ts : List TV} {i : Nat} (hi : i < ts.length), (∀ j (h : j < ts.length), j < i → chkT ts[j].tab = 0) → chkT ts[i].tab ≠ 0 → chkAll ts = chkT ts[i].tab
 | [], i, hi, _, _ => by simp at hi
 | t :: r, 0, _, _, h0 => by rw [chkAll]; exact if_pos h0
 | t :: r, i + 1, hi, hv, h0 => by
   have h1 : chkT t.tab = 0 := hv 0 (by simp) (by omega)
   rw [chkAll, if_neg (by simp [h1])]
   exact chkAll_bad (ts := r) (i := i) (by simpa using hi) (fun j hj hji => hv (j + 1) (by simpa using hj) (by omega)) h0
theorem chkAll_ok : ∀ {ts : List TV}, (∀ j (h : j < ts.length), chkT ts[j].tab = 0) → chkAll ts = 0
 | [], _ => rfl
 | t :: r, h => by
   have h1 : chkT t.tab = 0 := h 0 (by simp)
   rw [chkAll, if_neg (by simp [h1])]
   exact chkAll_ok (ts := r) fun j hj => h (j + 1) (by simpa using hj)
theorem chkAll_zero : ∀ {ts : List TV}, chkAll ts = 0 → ∀ j (h : j < ts.length), chkT ts[j].tab = 0
 | [], _, j, h => by simp at h
 | t :: r, hz, j, h => by
   rw [chkAll] at hz
   by_cases h0 : chkT t.tab = 0
   · rw [if_neg (by simp [h0])] at hz
     cases j with
     | zero => exact h0
     | succ j => exact chkAll_zero (ts := r) hz j (by simpa using h)
   · rw [if_pos h0] at hz; exact absurd hz h0
def dupN (ts : List TV) : Bool := (List.range ts.length).any (dupB ts)
def newE (ts : List TV) : Int := if 32 < ts.length then 2 else if chkAll ts ≠ 0 then chkAll ts else if dupN ts = true then 9 else 0
theorem dupB_at {ts : List TV} {i : Nat} (hi : i < ts.length) : dupB ts i = (ts.take i).any (isNT ts[i].nm) := by
 unfold dupB; rw [List.getElem?_eq_getElem hi]
theorem dupB_no {ts : List TV} {i : Nat} (hi : i < ts.length) (h : ∀ k (hk : k < ts.length), k < i → lst ts[k].nm ≠ lst ts[i].nm) : dupB ts i = false := by
 rw [dupB_at hi, List.any_eq_false]
 intro x hx
 obtain ⟨j, hj, rfl⟩ := List.getElem_of_mem hx
 rw [List.length_take] at hj
 rw [List.getElem_take]
 simpa [isNT] using h j (by omega) (by omega)
theorem dupB_yes {ts : List TV} {i k : Nat} (hi : i < ts.length) (hk : k < ts.length) (hki : k < i) (h : lst ts[k].nm = lst ts[i].nm) : dupB ts i = true := by
 rw [dupB_at hi]
 exact List.any_eq_true.2 ⟨ts[k], List.mem_take_iff_getElem.2 ⟨k, by omega, rfl⟩, by simp [isNT, h]⟩
theorem dupN_yes {ts : List TV} {i : Nat} (hi : i < ts.length) (h : dupB ts i = true) : dupN ts = true := List.any_eq_true.2 ⟨i, List.mem_range.2 hi, h⟩
theorem dupN_no {ts : List TV} (h : ∀ i, i < ts.length → dupB ts i = false) : dupN ts = false := by
 rw [dupN, List.any_eq_false]
 intro i hi
 rw [h i (List.mem_range.1 hi)]; decide
theorem newE_long {ts : List TV} (h : 32 < ts.length) : newE ts = 2 := by rw [newE, if_pos h]
theorem newE_bad {ts : List TV} (h : ¬ 32 < ts.length) {i : Nat} (hi : i < ts.length) (hv : ∀ j (h : j < ts.length), j < i → chkT ts[j].tab = 0) {E : Int} (hE : chkT ts[i].tab = E) (h0 : E ≠ 0) : newE ts = E := by
 have := chkAll_bad hi hv (by rw [hE]; exact h0)
 rw [newE, if_neg h, if_pos (by rw [this, hE]; exact h0), this, hE]
theorem newE_dup {ts : List TV} (h : ¬ 32 < ts.length) (hv : ∀ j (h : j < ts.length), chkT ts[j].tab = 0) (hd : dupN ts = true) : newE ts = 9 := by rw [newE, if_neg h, if_neg (by rw [chkAll_ok hv]; decide), if_pos hd]
theorem newE_ok {ts : List TV} (h : ¬ 32 < ts.length) (hv : ∀ j (h : j < ts.length), chkT ts[j].tab = 0) (hd : dupN ts = false) : newE ts = 0 := by rw [newE, if_neg h, if_neg (by rw [chkAll_ok hv]; decide), if_neg (by rw [hd]; decide)]
theorem newE_zero {ts : List TV} (h : newE ts = 0) : ts.length ≤ 32 ∧ ∀ j (h : j < ts.length), chkT ts[j].tab = 0 := by
 unfold newE at h
 split at h
 · simp at h
 rename_i h1
 split at h
 · rename_i h2; exact absurd h h2
 rename_i h2
 exact ⟨by omega, chkAll_zero (Classical.not_not.1 h2)⟩
theorem newE_same {ts us : List TV} (h : ts.map TV.tab = us.map TV.tab) : newE ts = newE us := by
 have hl : ts.length = us.length := by have := congrArg List.length h; simpa using this
 have hc : ∀ (a b : List TV), a.map TV.tab = b.map TV.tab → chkAll a = chkAll b := by
  intro a
  induction a with
  | nil => intro b hb; cases b with
    | nil => rfl
    | cons x y => simp at hb
  | cons x y ih => intro b hb; cases b with
    | nil => simp at hb
    | cons u v =>
      simp only [List.map_cons, List.cons.injEq] at hb
      rw [chkAll, chkAll, hb.1, ih v hb.2]
 have hat : ∀ i (h1 : i < ts.length) (h2 : i < us.length), ts[i].nm = us[i].nm := fun i h1 h2 => by
  have : (ts.map TV.tab)[i]? = (us.map TV.tab)[i]? := by rw [h]
  rw [List.getElem?_map, List.getElem?_map, List.getElem?_eq_getElem h1, List.getElem?_eq_getElem h2] at this
  simp only [Option.map_some, Option.some.injEq] at this
  exact congrArg Tab.nm this
 have hd : dupN ts = dupN us := by
  rcases hx : dupN us with _ | _
  · refine dupN_no fun i hi => dupB_no hi fun k hk hki e => ?_
    have h2 : i < us.length := by omega
    have := dupN_yes h2 (dupB_yes h2 (by omega) hki (by rw [← hat k hk (by omega), ← hat i hi h2]; exact e))
    rw [hx] at this; cases this
  · obtain ⟨i, hi, h1⟩ := List.any_eq_true.1 hx
    have hi2 := List.mem_range.1 hi
    have hi3 : i < ts.length := by omega
    rw [dupB_at hi2] at h1
    obtain ⟨x, hx1, hx2⟩ := List.any_eq_true.1 h1
    obtain ⟨k, hk, rfl⟩ := List.getElem_of_mem hx1
    rw [List.length_take] at hk
    rw [List.getElem_take] at hx2
    have hx3 : lst us[k].nm = lst us[i].nm := by simpa [isNT] using hx2
    exact dupN_yes hi3 (dupB_yes hi3 (k := k) (by omega) (by omega) (by rw [hat k (by omega) (by omega), hat i hi3 hi2]; exact hx3))
 rw [newE, newE, hl, hc ts us h, hd]
end Go.Proofs.YtalmanfjiblhcaaGreat.Tb
namespace Go.Proofs.YtalmanfjiblhcaaGreat.Tb
open Go.RowKit Go.Sort
structure Rw (N : Nat) (v : Value) (us : List TV) (w : World) : Prop where
 row : OwnTV w N v us
 cols : ColsAll w us
 far : ∀ i (h : i < us.length), ∀ b o, us[i].a = some ⟨b, o, none⟩ → N ≤ b
 apart : ∀ i (h : i < us.length), ∀ b o, us[i].a = some ⟨b, o, none⟩ → us[i].cs ≠ [] → v.ownBlock ≠ some b
 sz : N ≤ w.heap.size
theorem Rw.on {N : Nat} {v : Value} {us : List TV} {w w' : World} (h : Rw N v us w) (hb : Below w.heap.size w w') : Rw N v us w' :=
 ⟨h.row.on hb, h.cols.on hb, h.far, h.apart, Nat.le_trans h.sz hb.size⟩
theorem rw_nil (w : World) : Rw w.heap.size (.slice none 0 0) [] w := ⟨ownTV_nil _ _, fun i hi => by simp at hi, fun i hi => by simp at hi, fun i hi => by simp at hi, Nat.le_refl _⟩
theorem cols_other {w w' : World} {a : Option Addr} {cs : List Col} (h : ColsIn w a cs) (hb : ∀ b o, a = some ⟨b, o, none⟩ → cs ≠ [] → w'.heap[b]? = w.heap[b]?) : ColsIn w' a cs := by
 intro i hi
 obtain ⟨b, o, e, h0, h1, h2, h3⟩ := h i hi
 have hx := hb b o e (fun hh => by rw [hh] at hi; simp at hi)
 exact ⟨b, o, e, (World.cell?_of_block (w := w) (a := ⟨b, _, none⟩) hx).trans h0, (World.cell?_of_block (w := w) (a := ⟨b, _, none⟩) hx).trans h1, (World.cell?_of_block (w := w) (a := ⟨b, _, none⟩) hx).trans h2, (World.cell?_of_block (w := w) (a := ⟨b, _, none⟩) hx).trans h3⟩
theorem cols_lt {w : World} {a : Option Addr} {cs : List Col} (h : ColsIn w a cs) (h0 : cs ≠ []) : ∀ b o, a = some ⟨b, o, none⟩ → b < w.heap.size := fun b o e => by
 obtain ⟨b', o', e', h1, _⟩ := h 0 (List.length_pos_iff.2 h0)
 rw [e] at e'
 simp only [Option.some.injEq, Addr.mk.injEq, and_true] at e'
 obtain ⟨rfl, rfl⟩ := e'
 exact block_lt_of_cell h1
theorem Rw.set {N B o : Nat} {u v : Value} {us : List TV} {w : World} (h : Rw N v us w) (hB : B < N) : Rw N v us (w.setCell ⟨B, o, none⟩ u) := by
 refine ⟨⟨h.row.1, ?_⟩, fun i hi => ⟨(h.cols i hi).1.set (fun b o' e => by have := h.far i hi b o' e; omega), (h.cols i hi).2⟩, h.far, h.apart, ?_⟩
 · rcases h.row.2 with h1 | ⟨g, cap, cur, e, h1, h2, h3⟩
   · exact .inl h1
   · exact .inr ⟨g, cap, cur, e, h1, (Below.heap_setCell w ⟨B, o, none⟩ u g (by show g ≠ B; omega)).trans h2, h3⟩
 · have hb : Below 0 w (w.setCell ⟨B, o, none⟩ u) := ((Below.refl _ _).setCell (Nat.zero_le _) _)
   exact Nat.le_trans h.sz hb.size
theorem Rw.more {N Bs : Nat} {v : Value} {us : List TV} {U : World} {x : TV} (h : Rw N v us U) (h0 : U.cell? ⟨Bs, 0, none⟩ = some (.string x.nm)) (h1 : U.cell? ⟨Bs, 1, none⟩ = some (.slice x.a x.cs.length x.c))
 (hc : ColsIn U x.a x.cs) (hcap : x.cs.length ≤ x.c) (hnil : x.a = none → x.c = 0) (hf : ∀ b o, x.a = some ⟨b, o, none⟩ → N ≤ b) (hx : ∀ b o, x.a = some ⟨b, o, none⟩ → ∀ k, v.ownBlock = some k → k < b) (hml : (us.length + 1) * 40 ≤ 140737488355328) :
 ∃ a3 n3 c3 V3, (Builtin.append_ #[23, 23] 23 #[v, .slice (some ⟨Bs, 0, none⟩) 1 1]).run Tryz.prog U = .ok (.slice a3 n3 c3) V3 ∧ Rw N (.slice a3 n3 c3) (us ++ [x]) V3 ∧ U.grownBy V3 v.ownBlock := by
 obtain ⟨i0, hi, hz0, hz1, hz2⟩ := info_parts infoT
 have hnews : ∀ j u, (tvCells [x])[j]? = some u → U.cell? ((⟨Bs, 0, none⟩ : Addr).add j) = some u := by
  intro j u hj
  rw [Addr.add_lit]
  rcases j with _ | _ | j
  · simp [tvCells] at hj; subst hj; exact h0
  · simp [tvCells] at hj; subst hj; exact h1
  · simp [tvCells] at hj
 obtain ⟨v', w', hr, h2, h3, _, h5⟩ := run_append_own_at (P := Tryz.prog) U N 23 23 44 i0 (.agg #[.string ⟨#[]⟩, .slice none 0 0]) 2 40 Tryz.underlying23 hi hz0 hz1 hz2 rfl (by decide) v us.length (tvCells us) h.row ⟨Bs, 0, none⟩ 1 1 (tvCells [x]) (tvCells_len [x]) hnews (tvCells_one [x]) (by unfold maxLen; omega) (by omega) h.sz
 have ho : OwnTV w' N v' (us ++ [x]) := by
  unfold OwnTV
  rw [← tvCells_append, List.length_append]
  exact h2
 obtain ⟨a, c, rfl, _⟩ := ho.tabs
 refine ⟨a, _, c, w', hr, ⟨ho, fun i hi => ?_, fun i hi => ?_, fun i hi b o e hne => ?_, Nat.le_trans h.sz h3.size⟩, h3⟩
 · rcases Nat.lt_or_ge i us.length with hl | hl
   · rw [List.getElem_append_left hl]
     exact ⟨cols_other (h.cols i hl).1 fun b o e hne => h3.block b (cols_lt (h.cols i hl).1 hne b o e) (fun e2 => h.apart i hl b o e hne e2.symm), (h.cols i hl).2⟩
   · have hi2 : i = us.length := by simp at hi; omega
     subst hi2
     simp only [List.getElem_append_right (Nat.le_refl _), Nat.sub_self, List.getElem_cons_zero]
     exact ⟨cols_other hc fun b o e hne => h3.block b (cols_lt hc hne b o e) (fun e2 => by have := hx b o e b e2.symm; omega), hcap, hnil⟩
 · rcases Nat.lt_or_ge i us.length with hl | hl
   · rw [List.getElem_append_left hl]; exact h.far i hl
   · have hi2 : i = us.length := by simp at hi; omega
     subst hi2
     simp only [List.getElem_append_right (Nat.le_refl _), Nat.sub_self, List.getElem_cons_zero]
     exact hf
 · intro e2
   rcases Nat.lt_or_ge i us.length with hl | hl
   · rw [List.getElem_append_left hl] at e hne
     rcases h5 with h5 | h5
     · exact h.apart i hl b o e hne (h5 ▸ e2)
     · rw [h5] at e2
       have := cols_lt (h.cols i hl).1 hne b o e
       simp only [Option.some.injEq] at e2; omega
   · have hi2 : i = us.length := by simp at hi; omega
     subst hi2
     simp only [List.getElem_append_right (Nat.le_refl _), Nat.sub_self, List.getElem_cons_zero] at e hne
     rcases h5 with h5 | h5
     · rw [h5] at e2; have := hx b o e b e2; omega
     · rw [h5] at e2
       have := cols_lt hc hne b o e
       simp only [Option.some.injEq] at e2; omega
def NewTo (w : World) (ts : List TV) (e : Ending) (w' : World) : Prop :=
 (newE ts = 0 ∧ ∃ BC us, e = .returned (.tuple #[.pointer (some ⟨BC, 0, none⟩), .nilIface]) ∧ CatIn w' w.heap.size BC us ∧ us.map TV.tab = ts.map TV.tab ∧ Below w.heap.size w w') ∨ (newE ts ≠ 0 ∧ e = .returned (.tuple #[.pointer none, .iface 77 (.int .i64 (newE ts))]) ∧ Below w.heap.size w w')
theorem tabs_at {ts us : List TV} {i : Nat} (h : us.map TV.tab = (ts.take i).map TV.tab) (hi : i ≤ ts.length) : us.length = i ∧ ∀ k (h1 : k < us.length) (h2 : k < ts.length), us[k].nm = ts[k].nm := by
 have hl : us.length = i := by have := congrArg List.length h; rw [List.length_map, List.length_map, List.length_take] at this; omega
 refine ⟨hl, fun k h1 h2 => ?_⟩
 have : (us.map TV.tab)[k]? = ((ts.take i).map TV.tab)[k]? := by rw [h]
 rw [List.getElem?_map, List.getElem?_map, List.getElem?_eq_getElem h1, List.getElem?_take, if_pos (by omega), List.getElem?_eq_getElem h2] at this
 simp only [Option.map_some, Option.some.injEq] at this
 exact congrArg Tab.nm this
theorem idx_dup {ts us : List TV} {i : Nat} (h : us.map TV.tab = (ts.take i).map TV.tab) (hi : i < ts.length) : us.any (isNT ts[i].nm) = dupB ts i := by
 obtain ⟨hl, hat⟩ := tabs_at h (Nat.le_of_lt hi)
 rw [dupB_at hi]
 have e : ∀ (l : List TV), l.any (isNT ts[i].nm) = (l.map TV.tab).any (fun t => lst t.nm == lst ts[i].nm) := fun l => by rw [List.any_map]; rfl
 rw [e, e, h]
set_option maxRecDepth 100000 in
set_option maxHeartbeats 2000000 in
theorem tnew_ (a : Option Addr) (c : Nat) (ts : List TV) (w : World) (h : TabsIn w a ts) (hc : ColsAll w ts) (hl : ts.length ≤ 140737488355328) (hcs : ∀ t ∈ ts, t.cs.length ≤ 140737488355328) :
 Calls Tryz.prog 17 #[.slice a ts.length c] w (NewTo w ts) := by
 have HJ := Lib.hid h
 have HCo := Lib.hid hc
 have HCk : Hid (∀ W i (hi : i < ts.length), Below w.heap.size w W → Calls Tryz.prog 37 #[.agg #[.string ts[i].nm, .slice ts[i].a ts[i].cs.length ts[i].c]] W fun e w' => e = .returned (errV 77 (chkT ts[i].tab)) ∧ Below W.heap.size W w') := fun W i hi hb => tcheck_ ts[i].nm ts[i].a ts[i].c ts[i].cs W ((hc i hi).1.on hb) (hc i hi).2.1 (hcs _ (List.getElem_mem hi))
 obtain ⟨L, hL⟩ : ∃ L, ts.length = L := ⟨_, rfl⟩
 have HL := Lib.hid hL
 have HE1 : Hid (32 < L → newE ts = 2) := fun hx => newE_long (by omega)
 have HE2 : Hid (¬ 32 < L → ∀ i (hi : i < ts.length), (∀ j (h : j < ts.length), j < i → chkT ts[j].tab = 0) → ∀ E, chkT ts[i].tab = E → E ≠ 0 → newE ts = E) := fun hx i hi hv E hE h0 => newE_bad (by omega) hi hv hE h0
 have HE3 : Hid (¬ 32 < L → (∀ j (h : j < ts.length), chkT ts[j].tab = 0) → dupN ts = true → newE ts = 9) := fun hx hv hd => newE_dup (by omega) hv hd
 have HE4 : Hid (¬ 32 < L → (∀ j (h : j < ts.length), chkT ts[j].tab = 0) → dupN ts = false → newE ts = 0) := fun hx hv hd => newE_ok (by omega) hv hd
 unfold NewTo
 generalize newE ts = R at *
 rw [hL] at hl ⊢
 clear h hc hcs hL
 by_cases h32 : 32 < L
 · have HF := Lib.hid (HE1.out h32)
   have h1 : (32 : Int) < (L : Int) := by omega
   clear HE1 HE2 HE3 HE4
   go_enter Tryz.func17, Tryz.ntmps17
   go_wp2_with fail
   refine bodyPost_ret (v := .tuple #[.pointer none, .iface 77 (.int .i64 2)]) (by simp [results, Tryz.results17, go_sem]) rfl (.inr ⟨by rw [HF.out]; decide, by rw [HF.out], Below.refl _ _⟩)
 · have HX2 := Lib.hid (HE2.out h32)
   have HX3 := Lib.hid (HE3.out h32)
   have HX4 := Lib.hid (HE4.out h32)
   have h1 : ¬ (32 : Int) < (L : Int) := by omega
   clear HE1 HE2 HE3 HE4
   go_enter Tryz.func17, Tryz.ntmps17
   go_wp2_with fail
   go_loopw [16] (fun iv wr => ∃ i : Nat, i ≤ L ∧ iv = .int .i64 i ∧ Hid (∀ j (h : j < ts.length), j < i → chkT ts[j].tab = 0) ∧ Hid (Below w.heap.size w wr)) (fun iv _ => L - (intOf iv).toNat)
   case atStart => exact ⟨0, Nat.zero_le _, rfl, fun j _ hj => by omega, Below.refl _ _⟩
   case round =>
    obtain ⟨i, hi, rfl, HV, HB⟩ := hrel
    by_cases hlt : i < L
    · have hlt2 : (i : Int) < (L : Int) := by omega
      have hi1 : i < ts.length := by rw [HL.out]; exact hlt
      obtain ⟨b1, o1, rfl, q0, q1⟩ := HJ.out.on HB.out i hi1
      have HBa := Lib.hid (below_step HB.out (below_alloc1 wr (.cells #[.string ts[i].nm, .slice ts[i].a ts[i].cs.length ts[i].c] 44)))
      have HC := Lib.hid (HCk.out (wr.alloc (.cells #[.string ts[i].nm, .slice ts[i].a ts[i].cs.length ts[i].c] 44)) i hi1 HBa.out)
      have hch : (chkT ts[i].tab = 0) ∨ (chkT ts[i].tab ≠ 0) := Classical.em _
      have HV2 : Hid (chkT ts[i].tab = 0 → ∀ j (h : j < ts.length), j < i + 1 → chkT ts[j].tab = 0) := fun h0 j hj hji => by
       rcases Nat.lt_or_ge j i with hh | hh
       · exact HV.out j hj hh
       · obtain rfl : j = i := by omega
         exact h0
      have HF : Hid (∀ E, chkT ts[i].tab = E → E ≠ 0 → R = E) := fun E hE h0 => HX2.out i hi1 HV.out E hE h0
      generalize chkT ts[i].tab = Z at *
      generalize ts[i].nm = tn at *
      generalize ts[i].a = ta at *
      generalize ts[i].c = tc at *
      generalize ts[i].cs.length = tl at *
      clear HV hi1
      rcases hch with rfl | h0
      · have HV3 := Lib.hid (HV2.out rfl)
        rw [errV, if_pos rfl] at HC
        clear HV2 HF
        go_wp2_with fail
        refine HC.out.mono ?_
        rintro e w1 ⟨rfl, hb1⟩
        have HB1 := Lib.hid (below_step HBa.out hb1)
        clear hb1 HC q0 q1 HBa HB
        go_wp2_with fail
        go_roundw
        case rel => exact ⟨i + 1, by omega, by go_num, HV3, HB1⟩
        case measure => simp [intOf]; omega
      · have HF2 : Hid (R = Z ∧ Z ≠ 0) := ⟨HF.out Z rfl h0, h0⟩
        rw [errV, if_neg h0] at HC
        clear HV2 HF h0
        go_wp2_with fail
        refine HC.out.mono ?_
        rintro e w1 ⟨rfl, hb1⟩
        go_wp2_with fail
        refine bodyPost_ret (v := .tuple #[.pointer none, .iface 77 (.int .i64 Z)]) (by simp [results, Tryz.results17, go_sem]) rfl (.inr ⟨by rw [HF2.out.1]; exact HF2.out.2, by rw [HF2.out.1], below_step HBa.out hb1⟩)
    · obtain rfl : i = L := by omega
      have hii : ¬ ((i : Int) < (i : Int)) := by omega
      have HVa : Hid (∀ j (h : j < ts.length), chkT ts[j].tab = 0) := fun j hj => HV.out j hj (by rw [← HL.out]; exact hj)
      have HY3 := Lib.hid (HX3.out HVa.out)
      have HY4 := Lib.hid (HX4.out HVa.out)
      have HC16 : Hid (∀ j (h : j < ts.length), ts[j].cs.length ≤ 16 ∧ ts[j].cs ≠ []) := fun j hj => by
       have hr := right_of_chk (HVa.out j hj)
       exact ⟨hr.len, fun e => by have := hr.pos; rw [show (ts[j].tab).cs = ts[j].cs from rfl, e] at this; simp at this⟩
      clear HV HVa HX2 HX3 HX4
      obtain ⟨W2, hW2⟩ : ∃ W2, W2 = wr.alloc (.cells #[.slice none 0 0] 125) := ⟨_, rfl⟩
      obtain ⟨BC, hBC⟩ : ∃ BC, wr.heap.size = BC := ⟨_, rfl⟩
      have hsz2 : W2.heap.size = BC + 1 := by rw [hW2, ← hBC]; simp
      have hb2 : Below w.heap.size w W2 := below_step HB.out (by rw [hW2]; exact below_alloc1 _ _)
      have hNB : w.heap.size ≤ BC := by rw [← hBC]; exact HB.out.size
      have HBx : Hid (W2.cell? ⟨BC, 0, none⟩ = some (.slice none 0 0) ∧ W2.frozen? ⟨BC, 0, none⟩ = false) := by
       constructor <;> (rw [hW2, ← hBC]; simp [go_sem])
      have HR0 : Hid (Rw (BC + 1) (.slice none 0 0) [] W2) := by have := rw_nil W2; rw [hsz2] at this; exact this
      have HB2 := Lib.hid hb2
      have HNB := Lib.hid hNB
      have HW2 := Lib.hid hW2.symm
      clear hsz2 hb2 hNB hW2
      go_wp2_with fail
      rw [HW2.out]
      clear hBC HW2 HB
      go_loopw [30] (fun iv wr' => ∃ (j : Nat) (us : List TV) (ra : Option Addr) (rn rc : Nat), j ≤ i ∧ iv = .int .i64 j ∧ Hid (us.map TV.tab = (ts.take j).map TV.tab ∧ ∀ k, k < j → dupB ts k = false) ∧ Hid (wr'.cell? ⟨BC, 0, none⟩ = some (.slice ra rn rc) ∧ wr'.frozen? ⟨BC, 0, none⟩ = false) ∧ Hid (Rw (BC + 1) (.slice ra rn rc) us wr') ∧ Hid (Below w.heap.size w wr')) (fun iv _ => i - (intOf iv).toNat)
      case atStart => exact ⟨0, [], none, 0, 0, Nat.zero_le _, rfl, ⟨rfl, fun k hk => by omega⟩, HBx, HR0, HB2⟩
      case round =>
       obtain ⟨j, us, ra, rn, rc, hj, rfl, HU, HCc, HR, HBj⟩ := hrel
       by_cases hjl : j < i
       · have hjl2 : (j : Int) < (i : Int) := by omega
         have hj1 : j < ts.length := by rw [HL.out]; exact hjl
         obtain ⟨b1, o1, rfl, q0, q1⟩ := HJ.out.on HBj.out j hj1
         obtain ⟨W3, hW3⟩ : ∃ W3, W3 = wr.alloc (.cells #[.string ts[j].nm, .slice ts[j].a ts[j].cs.length ts[j].c] 44) := ⟨_, rfl⟩
         have hb3 : Below wr.heap.size wr W3 := by rw [hW3]; exact below_alloc1 _ _
         obtain ⟨B9, hB9⟩ : ∃ B9, wr.heap.size = B9 := ⟨_, rfl⟩
         have hT9 : InT W3 B9 ts[j].nm ts[j].a ts[j].cs.length ts[j].c := by rw [hW3, ← hB9]; exact inT_new _ _ _ _ _ _
         have HR3 := Lib.hid (HR.out.on hb3)
         have HB3 := Lib.hid (below_step HBj.out hb3)
         have HC3 : Hid (W3.cell? ⟨BC, 0, none⟩ = some (.slice ra rn rc) ∧ W3.frozen? ⟨BC, 0, none⟩ = false) := ⟨(hb3.cell (block_lt_of_cell HCc.out.1)).trans HCc.out.1, Frz.on HCc.out.2 (block_lt_of_cell HCc.out.1) hb3⟩
         have hul := (tabs_at HU.out.1 (by omega)).1
         have HCat : Hid (CatIn W3 w.heap.size BC us) := by
          obtain ⟨a', c', e, ht, _, _, hf⟩ := HR3.out.row.tabs
          simp only [Value.slice.injEq] at e
          obtain ⟨rfl, hrn, rfl⟩ := e
          have hNB := HNB.out
          exact ⟨by omega, HNB.out, ⟨ra, rc, by rw [← hrn]; exact HC3.out.1, ht, fun b o e => (by have := (hf b o e).1; omega)⟩, HR3.out.cols, fun k hk b o e => (by have := HR3.out.far k hk b o e; omega)⟩
         have HPl := Lib.hid (placeC_ w.heap.size BC us ts[j].nm W3 HCat.out)
         have hdup := idx_dup HU.out.1 hj1
         have hcase := idxP_any (isNT ts[j].nm) us
         have hml : (us.length + 1) * 40 ≤ 140737488355328 := by omega
         have HOw : Hid (∀ W, Below w.heap.size w W → Calls Tryz.prog 39 #[.agg #[.string ts[j].nm, .slice ts[j].a ts[j].cs.length ts[j].c]] W (TwinTo W ts[j].nm ts[j].cs ts[j].cs.length)) := fun W hW => own_ ts[j].nm ts[j].a ts[j].c ts[j].cs W ((HCo.out j hj1).1.on hW) (HCo.out j hj1).2.2 (by have := (HC16.out j hj1).1; omega)
         have HDy : Hid (dupB ts j = true → R = 9) := fun hd => HY3.out (dupN_yes hj1 hd)
         have HDn : Hid (dupB ts j = false → ∀ (x : TV), x.tab = ts[j].tab → (us ++ [x]).map TV.tab = (ts.take (j + 1)).map TV.tab ∧ ∀ k, k < j + 1 → dupB ts k = false) := fun hd x hx => by
          refine ⟨?_, fun k hk => ?_⟩
          · rw [List.map_append, HU.out.1, List.take_add_one, List.getElem?_eq_getElem hj1, List.map_append]
            show _ ++ [x.tab] = _ ++ [ts[j].tab]
            rw [hx]
          · rcases Nat.lt_or_ge k j with hh | hh
            · exact HU.out.2 k hh
            · obtain rfl : k = j := by omega
              exact hd
         have htab : ts[j].tab = ⟨ts[j].nm, ts[j].cs⟩ := rfl
         rw [htab] at HDn
         have HW3 := Lib.hid hW3.symm
         obtain ⟨t0, t1⟩ := hT9
         rw [hdup] at hcase
         generalize dupB ts j = db at *
         generalize idxP (isNT ts[j].nm) us = ix at *
         generalize ts[j].nm = tn at *
         generalize ts[j].a = ta at *
         generalize ts[j].c = tc at *
         generalize ts[j].cs = tcs at *
         obtain ⟨tl, htl⟩ : ∃ tl, tcs.length = tl := ⟨_, rfl⟩
         have HTl := Lib.hid htl
         rw [htl] at t1 q1 HW3 HOw
         have hT9 : InT W3 B9 tn ta tl tc := ⟨t0, t1⟩
         have HT9 := Lib.hid hT9
         have HT9b : Hid (∀ k, (Value.slice ra rn rc).ownBlock = some k → k ≠ B9) := fun k hk e => by have := (World.ownsRow.lt HR.out.row k hk).2; omega
         clear hW3 hb3 hul HU HCc HR htab hdup hj1 htl HBj HCat hT9
         rcases hcase with ⟨rfl, z, rfl, _⟩ | ⟨rfl, rfl⟩
         · have HF := Lib.hid (HDy.out rfl)
           have hz0 : (0 : Int) ≤ (z : Int) := by omega
           clear HDy HDn
           go_wp2_with fail
           rw [HW3.out]
           go_wp2_with (first | (go_at_call 38; refine HPl.out.mono ?_; rintro e w4 ⟨rfl, rfl⟩) | fail)
           refine bodyPost_ret (v := .tuple #[.pointer none, .iface 77 (.int .i64 9)]) (by simp [results, Tryz.results17, go_sem]) rfl (.inr ⟨by rw [HF.out]; decide, by rw [HF.out], HB3.out⟩)
         · have HD2 := Lib.hid (HDn.out rfl)
           clear HDy HDn
           go_wp2_with fail
           rw [HW3.out]
           go_wp2_with (first | (go_at_call 38; refine HPl.out.mono ?_; rintro e w4 ⟨rfl, rfl⟩) | fail)
           clear hB9
           have hbd := below_drew w4
           have HB4 := Lib.hid (below_step HB3.out hbd)
           have HR4 := Lib.hid (HR3.out.on hbd)
           have HC4 : Hid (w4.drew.cell? ⟨BC, 0, none⟩ = some (.slice ra rn rc) ∧ w4.drew.frozen? ⟨BC, 0, none⟩ = false) := ⟨(hbd.cell (block_lt_of_cell HC3.out.1)).trans HC3.out.1, Frz.on HC3.out.2 (block_lt_of_cell HC3.out.1) hbd⟩
           have HT4 := Lib.hid (HT9.out.on hbd)
           have HOx := Lib.hid (HOw.out w4.drew HB4.out)
           have HBs : Hid (w4.drew.cell? ⟨BC, 0, none⟩ = some (.slice ra rn rc) ∧ w4.drew.cell? ⟨B9, 0, none⟩ = some (.string tn) ∧ w4.drew.cell? ⟨B9, 1, none⟩ = some (.slice ta tl tc)) := ⟨HC4.out.1, HT4.out.1, HT4.out.2⟩
           have HF0 : Hid (∀ V : World, (V.cell? ⟨BC, 0, none⟩ = some (.slice ra rn rc) ∧ V.cell? ⟨B9, 0, none⟩ = some (.string tn) ∧ V.cell? ⟨B9, 1, none⟩ = some (.slice ta tl tc)) → V.cell? ⟨BC, 0, none⟩ = some (.slice ra rn rc)) := fun _ h => h.1
           have HF1 : Hid (∀ V : World, (V.cell? ⟨BC, 0, none⟩ = some (.slice ra rn rc) ∧ V.cell? ⟨B9, 0, none⟩ = some (.string tn) ∧ V.cell? ⟨B9, 1, none⟩ = some (.slice ta tl tc)) → V.cell? ⟨B9, 0, none⟩ = some (.string tn)) := fun _ h => h.2.1
           have HF2 : Hid (∀ V : World, (V.cell? ⟨BC, 0, none⟩ = some (.slice ra rn rc) ∧ V.cell? ⟨B9, 0, none⟩ = some (.string tn) ∧ V.cell? ⟨B9, 1, none⟩ = some (.slice ta tl tc)) → V.cell? ⟨B9, 1, none⟩ = some (.slice ta tl tc)) := fun _ h => h.2.2
           unfold TwinTo at HOx
           clear hbd HB3 HR3 HC3 HT9 HOw HW3 HPl t0 t1 q0 q1
           refine wp_region_noPanic ?_
           refine region_ph (A := fun _ => True) (e1 := 11) (B := (fun V => V.cell? ⟨BC, 0, none⟩ = some (.slice ra rn rc) ∧ V.cell? ⟨B9, 0, none⟩ = some (.string tn) ∧ V.cell? ⟨B9, 1, none⟩ = some (.slice ta tl tc))) (e2 := 9999) (C := (fun _ => True)) (by kernel_rfl) (⟨trivial, fun _ => HBs.out, fun _ => trivial⟩) (fun hSt => ?_)
           refine take_ph 0 (.pointer (some ⟨BC, 0, none⟩)) [] rfl (by kernel_rfl) (fun _ _ _ h => h) (Or.inl ⟨by rfl, ?_⟩) hSt (fun hSn => ?_)
           · intro V _; go_simp
           clear hSt; rename Ph _ _ _ _ _ _ _ => hSt; simp only [Act.put, prw]
           refine take_ph 1 (.pointer (some ⟨BC, 0, none⟩)) [] rfl (by kernel_rfl) (fun _ _ _ h => h) (Or.inl ⟨by rfl, ?_⟩) hSt (fun hSn => ?_)
           · intro V _; go_simp
           clear hSt; rename Ph _ _ _ _ _ _ _ => hSt; simp only [Act.put, prw]
           refine take_ph 2 (.pointer (some ⟨BC, 0, none⟩)) [] rfl (by kernel_rfl) (fun _ _ _ h => h) (Or.inl ⟨by rfl, ?_⟩) hSt (fun hSn => ?_)
           · intro V _; go_simp
           clear hSt; rename Ph _ _ _ _ _ _ _ => hSt; simp only [Act.put, prw]
           refine take_ph 3 (.pointer (some ⟨BC, 0, none⟩)) [] rfl (by kernel_rfl) (fun _ _ _ h => h) (Or.inl ⟨by rfl, ?_⟩) hSt (fun hSn => ?_)
           · intro V _; go_simp
           clear hSt; rename Ph _ _ _ _ _ _ _ => hSt; simp only [Act.put, prw]
           refine take_ph 4 (.slice ra rn rc) [11] rfl (by kernel_rfl) (fun _ _ _ h => h) (Or.inl ⟨by rfl, ?_⟩) hSt (fun hSn => ?_)
           · rintro V ⟨_, hB, hC⟩; have hh := hB (by decide); have e0 := HF0.out V hh; clear hB hC; go_simp
           clear hSt; rename Ph _ _ _ _ _ _ _ => hSt; simp only [Act.put, prw]
           refine take_ph 5 (.agg #[.string tn, .slice ta tl tc]) [11] rfl (by kernel_rfl) (fun _ _ _ h => h) (Or.inl ⟨by rfl, ?_⟩) hSt (fun hSn => ?_)
           · rintro V ⟨_, hB, hC⟩; have hh := hB (by decide); have e0 := HF1.out V hh; have e1 := HF2.out V hh; clear hB hC; go_simp
           clear hSt; rename Ph _ _ _ _ _ _ _ => hSt; simp only [Act.put, prw]
           refine ready_call_ph 6 rfl (by kernel_rfl) (fun KK hK => ?_)
           go_simp
           go_wp2_with (first | (go_at_call 39; refine HOx.out.mono ?_; rintro e V1 ⟨a5, c5, rfl, hc5, hn5, hna5, hfr5, hb5⟩))
           refine hK.out _ _ ?_ (fun hSn => ?_)
           · exact ⟨trivial, fun _ => ⟨(hb5.cell (block_lt_of_cell HBs.out.1)).trans HBs.out.1, (hb5.cell (block_lt_of_cell HBs.out.2.1)).trans HBs.out.2.1, (hb5.cell (block_lt_of_cell HBs.out.2.2)).trans HBs.out.2.2⟩, fun _ => trivial⟩
           clear hK KK hSt; rename Ph _ _ _ _ _ _ _ => hSt
           obtain ⟨U, hU⟩ : ∃ U, U = V1.alloc (.cells #[.string tn, .slice a5 tl c5] 44) := ⟨_, rfl⟩
           have hrb : Hid (∀ (a : Act) (o : Oper) (z : Operand), o.op = .buildSlice 23 1 #[(0, z)] → a.eval z = .agg #[.string tn, .slice a5 tl c5] → (execOp a.eval o).run Tryz.prog V1 = .ok (.value (.slice (some ⟨V1.heap.size, 0, none⟩) 1 1)) U) := fun a o z h1 h2 => by rw [hU]; exact run_buildT V1 tn a5 tl c5 a o z h1 h2
           have hbu : Below V1.heap.size V1 U := by rw [hU]; exact below_alloc1 V1 _
           have hin : InT U V1.heap.size tn a5 tl c5 := by rw [hU]; exact inT_new V1 tn a5 tl c5 44
           have hbv := below_step hb5 hbu
           have HRu := Lib.hid (HR4.out.on hbv)
           have hBs : U.cell? ⟨BC, 0, none⟩ = some (.slice ra rn rc) ∧ U.cell? ⟨B9, 0, none⟩ = some (.string tn) ∧ U.cell? ⟨B9, 1, none⟩ = some (.slice ta tl tc) := ⟨(hbv.cell (block_lt_of_cell HBs.out.1)).trans HBs.out.1, (hbv.cell (block_lt_of_cell HBs.out.2.1)).trans HBs.out.2.1, (hbv.cell (block_lt_of_cell HBs.out.2.2)).trans HBs.out.2.2⟩
           have hown : ∀ k, (Value.slice ra rn rc).ownBlock = some k → BC + 1 ≤ k ∧ k < w4.drew.heap.size := fun k hk => World.ownsRow.lt HR4.out.row k hk
           obtain ⟨a3, n3, c3, V3, hap, hrw, hgr⟩ := HRu.out.more (x := ⟨tn, a5, c5, tcs⟩) hin.1 (by rw [HTl.out]; exact hin.2) (hc5.on hbu) (by rw [HTl.out]; exact hn5) hna5 (fun b o e => Nat.le_trans HR4.out.sz (hfr5 b o e)) (fun b o e k hk => Nat.lt_of_lt_of_le (hown k hk).2 (hfr5 b o e)) hml
           have hB9l : B9 < w4.drew.heap.size := block_lt_of_cell HBs.out.2.1
           have hfz : U.frozen? ⟨BC, 0, none⟩ = false := Frz.on HC4.out.2 (block_lt_of_cell HC4.out.1) hbv
           have hbg : Below (BC + 1) U V3 := (Below.refl _ _).grown hgr HRu.out.sz (fun k hk => (hown k hk).1)
           have hcV : V3.cell? ⟨BC, 0, none⟩ = some (.slice ra rn rc) := (hbg.cell (Nat.lt_succ_self BC)).trans hBs.1
           have hfV : V3.frozen? ⟨BC, 0, none⟩ = false := (hbg.frozen (p := ⟨BC, 0, none⟩) (Nat.lt_succ_self BC)).trans hfz
           have hB9r := HT9b.out
           have hst := store_sl (t := 23) (a := a3) (n := n3) (c := c3) hcV hfV (by kernel_rfl)
           have HRn : Hid (Rw (BC + 1) (.slice a3 n3 c3) (us ++ [⟨tn, a5, c5, tcs⟩]) (V3.setCell ⟨BC, 0, none⟩ (.slice a3 n3 c3))) := hrw.set (Nat.lt_succ_self BC)
           have HCn : Hid ((V3.setCell ⟨BC, 0, none⟩ (.slice a3 n3 c3)).cell? ⟨BC, 0, none⟩ = some (.slice a3 n3 c3) ∧ (V3.setCell ⟨BC, 0, none⟩ (.slice a3 n3 c3)).frozen? ⟨BC, 0, none⟩ = false) := by
            constructor
            · simp [go_sem, hcV]
            · simp [go_sem, hfV]
           have HBn : Hid (Below w.heap.size w (V3.setCell ⟨BC, 0, none⟩ (.slice a3 n3 c3))) := ((below_step HB4.out hbv).grown hgr (Nat.le_trans HB4.out.size hbv.size) (fun k hk => by have := (hown k hk).1; have := HNB.out; omega)).setCell HNB.out _
           have HUn := Lib.hid (HD2.out ⟨tn, a5, c5, tcs⟩ rfl)
           have hB3 : V3.cell? ⟨BC, 0, none⟩ = some (.slice ra rn rc) ∧ V3.cell? ⟨B9, 0, none⟩ = some (.string tn) ∧ V3.cell? ⟨B9, 1, none⟩ = some (.slice ta tl tc) := ⟨hcV, (hgr.cell hBs.2.1 (fun e => hB9r _ e.symm rfl)), (hgr.cell hBs.2.2 (fun e => hB9r _ e.symm rfl))⟩
           clear hU hb5 hbu hin hbv HRu hc5 hn5 hna5 hfr5 hown hrw hgr hB9l hfz hbg hcV hfV hB9r HB4 HR4 HC4 HT4 HOx HD2 HBs HF0 HF1 HF2
           refine ready_ph 7 rfl (by kernel_rfl) rfl (.inl (hrb.out _ _ _ rfl rfl)) (⟨trivial, fun _ => hBs, fun _ => trivial⟩) (fun hSn => ?_)
           clear hSt; rename Ph _ _ _ _ _ _ _ => hSt; simp only [Act.put, prw]
           refine ready_ph 8 rfl (by kernel_rfl) rfl (.inl (exec_append rfl rfl rfl hap)) (⟨trivial, fun _ => hB3, fun _ => trivial⟩) (fun hSn => ?_)
           clear hSt; rename Ph _ _ _ _ _ _ _ => hSt; simp only [Act.put, prw]
           refine take_ph 9 (.pointer (some ⟨BC, 0, none⟩)) [] rfl (by kernel_rfl) (fun _ _ _ h => h) (Or.inl ⟨by rfl, ?_⟩) hSt (fun hSn => ?_)
           · intro V _; go_simp
           clear hSt; rename Ph _ _ _ _ _ _ _ => hSt; simp only [Act.put, prw]
           refine take_ph 10 (.pointer (some ⟨BC, 0, none⟩)) [] rfl (by kernel_rfl) (fun _ _ _ h => h) (Or.inl ⟨by rfl, ?_⟩) hSt (fun hSn => ?_)
           · intro V _; go_simp
           clear hSt; rename Ph _ _ _ _ _ _ _ => hSt; simp only [Act.put, prw]
           refine ready_store_ph 11 rfl (by kernel_rfl) rfl 23 _ _ rfl _ _ rfl rfl (hst) (⟨trivial, fun h => absurd (show true = false from h) (by decide), fun _ => trivial⟩) (fun hSn => ?_)
           clear hSt; rename Ph _ _ _ _ _ _ _ => hSt
           simp only [Act.put]
           refine done_ph (by kernel_rfl) ?_ _
           clear hSt
           refine NoPanic.normal ?_
           clear hap hrb hst hBs hB3
           generalize V3.setCell ⟨BC, 0, none⟩ (.slice a3 n3 c3) = V4 at *
           go_wp2_with fail
           go_roundw
           case rel => exact ⟨j + 1, us ++ [⟨tn, a5, c5, tcs⟩], a3, n3, c3, by omega, by go_num, HUn, HCn, HRn, HBn⟩
           case measure => simp [intOf]; omega
       · obtain rfl : j = i := by omega
         have hjj : ¬ ((j : Int) < (j : Int)) := by omega
         have HU2 : Hid (us.map TV.tab = ts.map TV.tab) := by
          show _ = _
          rw [HU.out.1, List.take_of_length_le (by rw [HL.out]; exact Nat.le_refl _)]
         have HF := Lib.hid (HY4.out (dupN_no fun k hk => HU.out.2 k (by rw [← HL.out]; exact hk)))
         have HCat : Hid (CatIn wr w.heap.size BC us) := by
          obtain ⟨a', c', e, ht, _, _, hf⟩ := HR.out.row.tabs
          simp only [Value.slice.injEq] at e
          obtain ⟨rfl, hrn, rfl⟩ := e
          have hNB := HNB.out
          have hul := (tabs_at HU.out.1 (by rw [HL.out]; exact Nat.le_refl _)).1
          exact ⟨by omega, HNB.out, ⟨ra, rc, by rw [← hrn]; exact HCc.out.1, ht, fun b o e => (by have := (hf b o e).1; omega)⟩, HR.out.cols, fun k hk b o e => (by have := HR.out.far k hk b o e; omega)⟩
         clear HU HCc HR
         go_wp2_with fail
         refine bodyPost_ret (v := .tuple #[.pointer (some ⟨BC, 0, none⟩), .nilIface]) (by simp [results, Tryz.results17, go_sem]) rfl (.inl ⟨HF.out, BC, rfl, us, HCat.out, HU2.out, HBj.out⟩)
end Go.Proofs.YtalmanfjiblhcaaGreat.Tb
