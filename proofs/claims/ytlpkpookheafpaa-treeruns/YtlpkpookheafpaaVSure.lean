/- The law's texts and sure. -/
import Derived.Test.YtlpkpookheafpaaVGet
import Derived.Test.YtlpkpookheafpaaVKeys
import Derived.Test.YtlpkpookheafpaaVTPut2
namespace Go.Proofs.Ytlpkpookheafpaa
open Go.RowKit Go.Sort

/-- Texts behind a slice. -/
def Tx (w : World) (a : Option Addr) (l : List ByteArray) : Prop := ∀ i x, l[i]? = some x → ∃ b o, a = some ⟨b, o, none⟩ ∧ b < w.heap.size ∧ w.cell? ⟨b, o + i, none⟩ = some (.string x)
theorem Tx.on {w w' : World} {a : Option Addr} {l : List ByteArray} (h : Tx w a l) (hb : Below w.heap.size w w') : Tx w' a l := fun i x hi => by
  obtain ⟨b, o, e, h1, h2⟩ := h i x hi
  exact ⟨b, o, e, Nat.lt_of_lt_of_le h1 hb.size, (hb.cell (p := ⟨b, o + i, none⟩) h1).trans h2⟩
theorem RowS.tx {w : World} {a : Option Addr} {n c : Nat} {l : List ByteArray} (h : RowS w (.slice a n c) l) : n = l.length ∧ Tx w a l ∧ c ≤ 9223372036854775807 := by
  obtain ⟨a', c', e, _, _, _, hcm⟩ := row_shape h
  cases e
  refine ⟨rfl, fun i x hi => ?_, by unfold maxLen at hcm; omega⟩
  have hl : i < l.length := (List.getElem?_eq_some_iff.1 hi).1
  obtain ⟨g, c', cur, e, hg, _, _, _, hx⟩ := row_open h (by omega)
  cases e
  refine ⟨g, 0, rfl, blk_lt hg, ?_⟩
  rw [Nat.zero_add]
  refine cell_of hg ?_
  have : (cS l)[i]? = some (.string x) := by simp [cS, hi]
  rw [← hx, List.getElem?_take] at this
  split at this
  · simpa using this
  · cases this
set_option maxRecDepth 100000 in
theorem texts_ {w : World} {a b : Option Addr} {ca cb : Nat} {l : List ByteArray} (ha : Tx w a l) (hb : Tx w b l) (hl : l.length ≤ 1000000) :
    Calls Try.prog 18 #[.slice a l.length ca, .slice b l.length cb] w fun e w' => e = .returned (.bool true) ∧ Below w.heap.size w w' := by
  have HA := Lib.hid ha
  have HB := Lib.hid hb
  have HG : Hid (∀ i, i < l.length → ∃ x, l[i]? = some x) := fun i hi => getElem?_of_lt hi
  have H0 := Lib.hid (Below.refl w.heap.size w)
  clear ha hb
  generalize hn : l.length = n at *
  clear hn
  go_enter Try.func18, Try.ntmps18
  go_wp2_with fail
  go_loopg [5] n (fun kx s5 wr => ∃ i : Nat, s5 = .int .i64 i ∧ i ≤ n ∧ n - i ≤ kx ∧ Hid (Below w.heap.size w wr))
  case atStart => exact ⟨0, rfl, Nat.zero_le _, by omega, H0⟩
  case round =>
    clear H0
    obtain ⟨i, rfl, hi, hk, HW⟩ := hrel
    by_cases hlt : i < n
    · obtain ⟨x, hx⟩ := HG.out i hlt
      obtain ⟨b1, o1, rfl, _, h1⟩ := HA.out.on HW.out i x hx
      obtain ⟨b2, o2, rfl, _, h2⟩ := HB.out.on HW.out i x hx
      have HBd := Lib.hid (below_step HW.out (below_drew wr))
      have hw1 := wraps_i64 ((i : Int) + 1) (by omega) (by omega)
      clear HA HB HG hx HW
      go_wp2_with fail
      go_region_held (fun V => V.cell? ⟨b1, o1 + i, none⟩ = some (.string x) ∧ V.cell? ⟨b2, o2 + i, none⟩ = some (.string x)) (go_keep) (fail)
      go_wp2_with fail
      go_roundg (n - (i + 1))
      case measure => omega
      case rel => exact ⟨i + 1, by rw [show (i : Int) + 1 = ((i + 1 : Nat) : Int) by omega], by omega, Nat.le_refl _, HBd⟩
    · clear HA HB HG
      go_wp2_with fail
      go_ret
      exact ⟨rfl, HW.out⟩
def tA : ByteArray := ⟨#[97]⟩
def tB : ByteArray := ⟨#[98]⟩
theorem ltb_ab : ltb tA tB = true := by
  unfold ltb
  rw [Lib.toList_data, Lib.toList_data]
  decide
theorem two_ins (x y : ByteArray) : ins tA x (ins tB y []) = [(tA, x), (tB, y)] := by
  have h1 : ins tB y [] = [(tB, y)] := rfl
  rw [h1]
  simp [ins, lo, hi, ltb_ab, ltb_asymm ltb_ab]
theorem empty_store (w : World) : Store w (fun _ => none) :=
  ⟨fun _ _ e => (by cases e), fun _ _ e => (by cases e), fun _ _ e => (by cases e), fun _ _ _ _ _ e => (by cases e), fun _ _ _ _ _ e => (by cases e)⟩
/-- What lies below stays while one works on nodes of one's own. -/
structure Works (W w : World) (M : Nat → Option Nd) : Prop where
  st : Store w M
  below : Below W.heap.size W w
  mine : ∀ k, Own M k → W.heap.size ≤ k
theorem Works.start (W : World) : Works W W (fun _ => none) := ⟨empty_store W, Below.refl _ _, fun _ ⟨_, _, e, _⟩ => by cases e⟩
theorem Works.on {W w w' : World} {M : Nat → Option Nd} (h : Works W w M) (hb : Below w.heap.size w w') : Works W w' M := ⟨h.st.on hb, below_step h.below hb, h.mine⟩
theorem Works.kept {W w w' : World} {M M' : Nat → Option Nd} {F F' : Nat → Prop} {p : Nat} (h : Works W w M) (hp : W.heap.size ≤ p) (hk : KeptT M M' F F' p w w') : Works W w' M' := by
  have hs := h.below.size
  refine ⟨hk.st, ⟨hk.ext.os.trans h.below.os, hk.ext.tape.trans h.below.tape, hk.ext.output.trans h.below.output, Nat.le_trans hs hk.ext.size, fun k hk' => ?_⟩, fun k hk' => ?_⟩
  · refine (hk.ext.block k (by omega) fun q => ?_).trans (h.below.block k hk')
    rcases q with q | q
    · have := h.mine k q; omega
    · omega
  · rcases hk.ext.new k (.inl hk') with (q | q) | q
    · exact h.mine k q
    · omega
    · omega
/-- A block of another kind stays. -/
theorem KeptT.stays {M M' : Nat → Option Nd} {F F' : Nat → Prop} {p : Nat} {w w' : World} (hk : KeptT M M' F F' p w w') {b : Nat} {o : Obj} (hb : w.heap[b]? = some o) (hn : ¬ Own M b) (hp : b ≠ p) : w'.heap[b]? = some o ∧ ¬ Own M' b := by
  have hlt := blk_lt hb
  refine ⟨(hk.ext.block b hlt fun q => q.elim hn hp).trans hb, fun q => ?_⟩
  rcases hk.ext.new b (.inl q) with (q | q) | q
  · exact hn q
  · exact hp q
  · omega
set_option maxRecDepth 100000 in
set_option maxHeartbeats 1000000 in
theorem sure_ (w : World) : Calls Try.prog 17 #[] w fun e w' => e = .returned (.bool true) ∧ Below w.heap.size w w' := by
  have HN : Hid (Calls Try.prog 7 #[] w fun e w1 => ∃ p, e = .returned (.pointer (some ⟨p, 0, none⟩)) ∧ Hid (w.heap.size ≤ p ∧ Works w w1 (fun _ => none) ∧ TreeAt w1 (fun _ => none) p [] (fun _ => False))) := (new_ w).mono fun e w1 ⟨e1, e2⟩ => by
    subst e2
    exact ⟨_, e1, Nat.le_refl _, (Works.start w).on (below_alloc w _), (new_tree (empty_store w)).2⟩
  have HP1 : Hid (∀ p w1, (w.heap.size ≤ p ∧ Works w w1 (fun _ => none) ∧ TreeAt w1 (fun _ => none) p [] (fun _ => False)) → Calls Try.prog 8 #[.pointer (some ⟨p, 0, none⟩), .string ⟨#[98]⟩, .string ⟨#[49]⟩] w1 fun e w2 => ∃ t1 t2, e = .returned (.tuple #[t1, t2]) ∧ Hid (∃ M F, w.heap.size ≤ p ∧ Works w w2 M ∧ TreeAt w2 M p (ins tB ⟨#[49]⟩ []) F)) := fun p w1 ⟨h1, h2, h3⟩ => (tput_ h2.st h3 (by simp) _ _).mono fun e w2 ⟨e1, M', F', hk, ht⟩ => ⟨_, _, e1, M', F', h1, h2.kept h1 hk, ht⟩
  have HP2 : Hid (∀ p w1, (∃ M F, w.heap.size ≤ p ∧ Works w w1 M ∧ TreeAt w1 M p (ins tB ⟨#[49]⟩ []) F) → Calls Try.prog 8 #[.pointer (some ⟨p, 0, none⟩), .string ⟨#[97]⟩, .string ⟨#[50]⟩] w1 fun e w2 => ∃ t1 t2, e = .returned (.tuple #[t1, t2]) ∧ Hid (∃ M F, Works w w2 M ∧ TreeAt w2 M p [(tA, ⟨#[50]⟩), (tB, ⟨#[49]⟩)] F)) := fun p w1 ⟨M, F, h1, h2, h3⟩ => (tput_ h2.st h3 (by rw [ins_len List.Pairwise.nil]; simp [get]) _ _).mono fun e w2 ⟨e1, M', F', hk, ht⟩ => ⟨_, _, e1, M', F', h2.kept h1 hk, by rw [← two_ins]; exact ht⟩
  have HG : Hid (∀ p w1, (∃ M F, Works w w1 M ∧ TreeAt w1 M p [(tA, ⟨#[50]⟩), (tB, ⟨#[49]⟩)] F) → Calls Try.prog 22 #[.pointer (some ⟨p, 0, none⟩), .string ⟨#[97]⟩] w1 fun e w2 => e = .returned (.tuple #[.string ⟨#[50]⟩, .bool true]) ∧ Hid (∃ M F, Works w w2 M ∧ TreeAt w2 M p [(tA, ⟨#[50]⟩), (tB, ⟨#[49]⟩)] F)) := fun p w1 ⟨M, F, h2, h3⟩ => (tget_ h2.st h3 tA).mono fun e w2 ⟨e1, hb⟩ => by
    have hg : get tA [(tA, (⟨#[50]⟩ : ByteArray)), (tB, ⟨#[49]⟩)] = some ⟨#[50]⟩ := get_at (P := []) (by simp)
    rw [hg] at e1
    exact ⟨e1, M, F, h2.on hb, h3.on hb⟩
  have HK : Hid (∀ p w1, (∃ M F, Works w w1 M ∧ TreeAt w1 M p [(tA, ⟨#[50]⟩), (tB, ⟨#[49]⟩)] F) → Calls Try.prog 16 #[.pointer (some ⟨p, 0, none⟩)] w1 fun e w2 => ∃ a n c, e = .returned (.slice a n c) ∧ Hid (n = 2 ∧ Tx w2 a [tA, tB] ∧ Below w.heap.size w w2)) := fun p w1 ⟨M, F, h2, h3⟩ => (tkeys_ h2.st h3 (by simp)).mono fun e w2 ⟨a, n, c, e1, hr, hb, _⟩ => ⟨a, n, c, e1, hr.tx.1, hr.tx.2.1, below_step h2.below hb⟩
  have HX : Hid (∀ w3 a n c, (n = 2 ∧ Tx w3 a [tA, tB] ∧ Below w.heap.size w w3) → Calls Try.prog 18 #[.slice a n c, .slice (some ⟨w3.heap.size, 0, none⟩) 2 2] (w3.alloc (.cells #[.string ⟨#[97]⟩, .string ⟨#[98]⟩] 9)) fun e w4 => e = .returned (.bool true) ∧ Hid (Below w.heap.size w w4)) := fun w3 a n c ⟨h1, h2, h3⟩ => by
    subst h1
    have hn := new_blk w3 (.cells #[.string ⟨#[97]⟩, .string ⟨#[98]⟩] 9)
    have hal := below_alloc w3 (.cells #[.string ⟨#[97]⟩, .string ⟨#[98]⟩] 9)
    refine (texts_ (l := [tA, tB]) (h2.on hal) (fun i x hi => ⟨w3.heap.size, 0, rfl, blk_lt hn, ?_⟩) (by simp)).mono fun e w4 ⟨e1, e2⟩ => ⟨e1, below_step (below_step h3 hal) e2⟩
    rw [Nat.zero_add]
    match i, hi with
    | 0, hi => cases hi; exact cell_of hn rfl
    | 1, hi => cases hi; exact cell_of hn rfl
  go_enter Try.func17, Try.ntmps17
  go_wp2_with (first
    | (go_at_call 7; refine HN.out.mono ?_; rintro e w1 ⟨p, rfl, H1⟩)
    | (go_at_call_of 8 (#[.pointer (some ⟨p, 0, none⟩), .string ⟨#[98]⟩, .string ⟨#[49]⟩] : Array Value); refine (HP1.out p _ H1.out).mono ?_; rintro e w2 ⟨t1, t2, rfl, H2⟩)
    | (go_at_call_of 8 (#[.pointer (some ⟨p, 0, none⟩), .string ⟨#[97]⟩, .string ⟨#[50]⟩] : Array Value); refine (HP2.out p _ H2.out).mono ?_; rintro e w3 ⟨t3, t4, rfl, H3⟩)
    | (go_at_call 22; refine (HG.out p _ H3.out).mono ?_; rintro e w4 ⟨rfl, H4⟩)
    | (go_at_call 16; refine (HK.out p _ H4.out).mono ?_; rintro e w5 ⟨a5, n5, c5, rfl, H5⟩)
    | (go_at_call 18; refine (HX.out _ _ _ _ H5.out).mono ?_; rintro e w6 ⟨rfl, H6⟩)
    | fail)
  go_ret
  exact ⟨rfl, H6.out⟩
end Go.Proofs.Ytlpkpookheafpaa
