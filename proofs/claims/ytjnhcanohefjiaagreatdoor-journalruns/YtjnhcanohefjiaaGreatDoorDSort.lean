/- Places put in order: slices.SortFunc and slices.SortedFunc over the keys of a map. -/
import Derived.Test.YtjnhcanohefjiaaGreatDoorJDC
import Derived.Test.YtjnhcanohefjiaaGreatDoorDSortF
namespace Go.Proofs.YtjnhcanohefjiaaGreatDoor
open Go.RowKit Go.Sort Go.Maps Go.Shelf

def encP (x : Pl) : List Value := [.int .i64 x.1, .int .i64 x.2]
theorem swoP : SWO (ltOf cmpP) where
  irrefl x := by unfold ltOf; rw [decide_eq_false]; rw [cmpP_lt]; exact ltP_irrefl x
  trans x y z h1 h2 := by
    unfold ltOf at *
    have h1 := (cmpP_lt x y).1 (of_decide_eq_true h1)
    have h2 := (cmpP_lt y z).1 (of_decide_eq_true h2)
    exact decide_eq_true ((cmpP_lt x z).2 (ltP_trans h1 h2))
  ntrans x y z h1 h2 := by
    unfold ltOf at *
    have h1 : ¬ ltP x y := fun h => of_decide_eq_false h1 ((cmpP_lt x y).2 h)
    have h2 : ¬ ltP y z := fun h => of_decide_eq_false h2 ((cmpP_lt y z).2 h)
    refine decide_eq_false fun h3 => ?_
    have h3 := (cmpP_lt x z).1 h3
    unfold ltP at *
    omega
theorem eq_of_srt : ∀ {a b : List Pl}, a.Pairwise ltP → b.Pairwise ltP → a.Perm b → a = b
  | [], b, _, _, h => (List.nil_perm.1 h).symm
  | x :: a, [], _, _, h => by have := h.length_eq; simp at this
  | x :: a, y :: b, ha, hb, h => by
    obtain ⟨a1, a2⟩ := List.pairwise_cons.1 ha
    obtain ⟨b1, b2⟩ := List.pairwise_cons.1 hb
    have e : x = y := by
      have hx : x ∈ y :: b := h.mem_iff.1 List.mem_cons_self
      have hy : y ∈ x :: a := h.mem_iff.2 List.mem_cons_self
      rcases List.mem_cons.1 hx with e | hx
      · exact e
      · rcases List.mem_cons.1 hy with e | hy
        · exact e.symm
        · exact absurd (ltP_trans (b1 x hx) (a1 y hy)) (ltP_irrefl y)
    subst e
    rw [eq_of_srt a2 b2 h.cons_inv]
/-- The cells of places. -/
def PlsAt (w : World) (g : Nat) (ss : List Pl) : Prop := ∀ i (h : i < ss.length), w.cell? ⟨g, i * 2, none⟩ = some (.int .i64 ss[i].1) ∧ w.cell? ⟨g, i * 2 + 1, none⟩ = some (.int .i64 ss[i].2)
theorem flat_get : ∀ (ss : List Pl) (i : Nat) (h : i < ss.length), (flat ss)[i * 2]? = some (.int .i64 ss[i].1) ∧ (flat ss)[i * 2 + 1]? = some (.int .i64 ss[i].2)
  | x :: r, 0, _ => ⟨rfl, rfl⟩
  | x :: r, i + 1, h => by
    have ih := flat_get r i (by simpa using h)
    have e : flat (x :: r) = .int .i64 x.1 :: .int .i64 x.2 :: flat r := rfl
    rw [e, show (i + 1) * 2 = i * 2 + 1 + 1 by omega, List.getElem?_cons_succ, List.getElem?_cons_succ, List.getElem?_cons_succ, List.getElem?_cons_succ]
    simpa using ih
/-- What a row of places is, its cells told. -/
theorem own_row {w : World} {base : Nat} {v : Value} {ss : List Pl} (h : w.ownsRow base 132 2 v ss.length (flat ss)) (hn : ss ≠ []) : ∃ g cap, v = .slice (some ⟨g, 0, none⟩) ss.length cap ∧ base ≤ g ∧ g < w.heap.size ∧ ∀ j, j < ss.length * 2 → w.cell? ⟨g, j, none⟩ = (flat ss)[j]? ∧ w.frozen? ⟨g, j, none⟩ = false := by
  rcases h.2 with ⟨_, h0⟩ | ⟨g, cap, cur, rfl, h1, h2, h3, h4, h5, h6⟩
  · exact absurd (List.eq_nil_of_length_eq_zero h0) hn
  · refine ⟨g, cap, rfl, h1, blk_lt h2, fun j hj => ⟨?_, frozen_of h2⟩⟩
    rw [cell_of_row w g j cur 132 (0, 0) h2, ← h6, List.getElem?_take_of_lt hj]
    simp
set_option maxHeartbeats 1000000 in
/-- slices.SortFunc, of a row that is not empty. -/
theorem sortF_ {w : World} {base : Nat} {v : Value} {ss ks : List Pl} (h : w.ownsRow base 132 2 v ss.length (flat ss)) (hn : ss ≠ []) (hl : ss.length ≤ 1000000) (hp : ss.Perm ks) (hk : ks.Pairwise ltP) :
    Calls Tryz.prog 85 #[v, .func (.func 68) #[] #[]] w fun e w' => e = .returned (.tuple #[]) ∧ ∃ g cap, v = .slice (some ⟨g, 0, none⟩) ks.length cap ∧ base ≤ g ∧ PlsAt w' g ks ∧ w'.os = w.os ∧ w'.tape = w.tape ∧ w'.output = w.output ∧ w.heap.size ≤ w'.heap.size ∧ ∀ k, k < w.heap.size → k ≠ g → w'.heap[k]? = w.heap[k]? := by
  obtain ⟨g, cap, rfl, h1, h2, h3⟩ := own_row h hn
  have hsz : ss.toArray.size = ss.length := by simp
  have hget : ∀ i, i < ss.length → ss.toArray[i]! = ss[i]! := fun i _ => by simp
  have hH : HoldsK encP 2 w g 0 ss.toArray := by
    intro j hj
    rw [size_flatK, hsz] at hj
    obtain ⟨e1, e2⟩ := h3 j hj
    rw [Nat.zero_add]
    refine ⟨?_, e2⟩
    rw [e1, get_flatK encP 2 ss.toArray j (by rw [hsz]; exact hj)]
    obtain ⟨f1, f2⟩ := flat_get ss (j / 2) (by omega)
    have e0 : ss.toArray[j / 2]! = ss[j / 2]'(by omega) := by
      rw [hget _ (by omega), getElem!_pos ss (j / 2) (by omega)]
    rw [e0]
    generalize ss[j / 2]'(by omega) = x at *
    rcases Nat.mod_two_eq_zero_or_one j with h0 | h0
    · rw [show j / 2 * 2 = j by omega] at f1
      rw [f1, h0]; rfl
    · rw [show j / 2 * 2 + 1 = j by omega] at f2
      rw [f2, h0]; rfl
  have hC : CmpLays Tryz.prog 68 #[] encP 2 cmpP g 0 ss.toArray.size w := fun m os dk _ x y => compare_ x y _
  have eg : ∀ args w, (callFunc 68 args).run Tryz.prog w = .ok (.enter 68 args) w := enters_of Tryz.func68 (by kernel_rfl) rfl
  have hs := AnyQ.slices_SortFunc Tryz.sortP 2 (fun w => by kernel_rfl) (fun w => by kernel_rfl) encP (fun _ => rfl) (fun x v hv => by simp only [encP, List.mem_cons, List.not_mem_nil, or_false] at hv; rcases hv with rfl | rfl <;> rfl) cmpP swoP 68 #[] g 0 cap ss.toArray w eg hC hH h2 (by rw [hsz]; omega)
  rw [hsz] at hs
  refine hs.mono ?_
  rintro e w' ⟨rfl, d', n, os, hP, hS, rfl⟩
  have hds : d'.size = ss.length := by rw [hP.1, hsz]
  have hperm : d'.toList.Perm ss := by
    have := hP.2.2
    have e2 : (d'.extract 0 ss.length).toList = d'.toList := by rw [← hds]; simp
    have e3 : (ss.toArray.extract 0 ss.length).toList = ss := by simp
    rw [e2, e3] at this
    exact this
  have e1 : d'.toList = ks := by
    refine eq_of_srt ?_ hk (hperm.trans hp)
    have hnd : d'.toList.Nodup := by
      have h1 : ks.Nodup := by rw [List.nodup_iff_pairwise_ne]; exact List.Pairwise.imp (fun h => ltP_ne h) hk
      exact (hperm.trans hp).nodup_iff.2 h1
    rw [List.nodup_iff_pairwise_ne] at hnd
    rw [List.pairwise_iff_getElem] at hnd ⊢
    intro i j hi hj hij
    have hi' : i < d'.size := by simpa using hi
    have hj' : j < d'.size := by simpa using hj
    have := hS i j (Nat.zero_le _) hij (by omega)
    unfold ltOf at this
    have hno : ¬ ltP d'[j]! d'[i]! := fun h => of_decide_eq_false this ((cmpP_lt _ _).2 h)
    rw [getElem!_pos d' j hj', getElem!_pos d' i hi'] at hno
    have hne := hnd i j hi hj hij
    simp only [Array.getElem_toList] at hne ⊢
    rcases ltP_total d'[i] d'[j] with h | h | h
    · exact h
    · exact absurd h hne
    · exact absurd h hno
  have hkl : ks.length = ss.length := hp.length_eq.symm
  have hH' := holdsK_sortWorldK encP 2 w g 0 n ss.toArray d' os h2 hH (by rw [hds, hsz])
  refine ⟨rfl, g, cap, by rw [hkl], h1, ?_, rfl, rfl, rfl, size_sortWorldK_c encP 2 w g 0 n d' os, fun k hk hne => ?_⟩
  · intro i hi
    have hi' : i < d'.size := by omega
    have e2 : d'[i]! = ks[i] := by
      rw [getElem!_pos d' i hi']
      simp only [← e1, Array.getElem_toList]
    have c0 := (hH'.cell (c := 0) hi' (by omega)).1
    have c1 := (hH'.cell (c := 1) hi' (by omega)).1
    rw [e2] at c0 c1
    rw [Nat.zero_add] at c0 c1
    exact ⟨c0, c1⟩
  · unfold sortWorldK putRowK grow putRow mapBlock Sort.ahead
    simp only
    rw [Array.getElem?_append_left (by simpa using hk), Array.getElem?_modify, if_neg (fun e => hne e.symm)]
theorem bitsLen0 (w : World) : Calls Tryz.prog 98 #[.int .u64 0] w fun e w' => e = .returned (.int .i64 0) ∧ w' = w :=
  Any.bits_Len (SlLaysF0.n15.bits (P := Tryz.prog) (ρ := Tryz.sortP_ren) { Tryz.sortP with }) 0 w (by omega) (by omega)
set_option maxHeartbeats 1000000 in
theorem ins_nil (fv : Value) (w : World) : Calls Tryz.prog 104 #[.slice none 0 0, .int .i64 0, .int .i64 0, fv] w fun e w' => e = .returned (.tuple #[]) ∧ w' = w := by
  go_enter Tryz.func104, Tryz.ntmps104
  go_wp2_with fail
  refine wp_loop_rounds 1 ?_
  rw [rounds_succ]
  go_wp2_with fail
  go_end0
  exact ⟨rfl, rfl⟩
set_option maxHeartbeats 1000000 in
theorem pdq_nil (fv : Value) (w : World) : Calls Tryz.prog 97 #[.slice none 0 0, .int .i64 0, .int .i64 0, .int .i64 0, fv] w fun e w' => e = .returned (.tuple #[]) ∧ w' = w := by
  have H := Lib.hid (ins_nil fv w)
  go_enter Tryz.func97, Tryz.ntmps97
  go_wp2_with fail
  refine wp_loop_rounds 1 ?_
  rw [rounds_succ]
  go_wp2_with fail
  refine H.out.mono ?_
  rintro e w1 ⟨rfl, rfl⟩
  go_wp2_with fail
  exact bodyPost_ret (results_none rfl _ _ _) rfl ⟨rfl, rfl⟩
set_option maxHeartbeats 1000000 in
theorem sortF_nil (fv : Value) (w : World) : Calls Tryz.prog 85 #[.slice none 0 0, fv] w fun e w' => e = .returned (.tuple #[]) ∧ w' = w := by
  have H := Lib.hid (pdq_nil fv w)
  have HB := Lib.hid (bitsLen0 w)
  go_enter Tryz.func85, Tryz.ntmps85
  go_wp2_with fail
  refine HB.out.mono ?_
  rintro e w1 ⟨rfl, rfl⟩
  go_wp2_with fail
  refine H.out.mono ?_
  rintro e w2 ⟨rfl, rfl⟩
  go_wp2_with fail
  go_end0
  exact ⟨rfl, rfl⟩
/-- The places of a map in order: what slices.SortedFunc hands back. -/
def OrdTo (w : World) (ks : List Pl) (e : Ending) (w' : World) : Prop :=
  (∃ v, e = .returned v ∧ ((v = .slice none 0 0 ∧ ks = []) ∨ ∃ g cap, v = .slice (some ⟨g, 0, none⟩) ks.length cap ∧ w.heap.size ≤ g ∧ PlsAt w' g ks)) ∧ Below w.heap.size w w'
set_option maxHeartbeats 1000000 in
theorem sortedFunc_ (Bm b nn : Nat) (D0 : DataW Unit) (pl : List (Pl × Ct)) (hp : PendIs D0 pl) (hs : SrtP pl) (hi : ∀ x ∈ pl, inP x.1) (w : World) (hm : w.cell? ⟨Bm, 0, none⟩ = some (.map (some b))) (hown : w.ownsMap Tryz.prog 132 ctE b nn D0) (hnn : nn ≤ 1000000) (hln : pl.length ≤ 1000000) :
    Calls Tryz.prog 66 #[.func (.func 86) #[] #[.pointer (some ⟨Bm, 0, none⟩)], .func (.func 68) #[] #[]] w (OrdTo w (pl.map (·.1))) := by
  have hk : (pl.map (·.1)).Pairwise ltP := by rw [List.pairwise_map]; exact hs
  have H := Lib.hid (collect_ #[.pointer (some ⟨Bm, 0, none⟩)] _ _ (Nat.le_trans hown.size_le hnn) w (keys_gives 4 (by omega) hp hs hi w hm hown))
  have HK := Lib.hid (And.intro hk hln)
  clear hp hs hi hm hown hk
  rw [← List.length_map (f := fun x : Pl × Ct => x.1)] at HK
  clear hln
  generalize pl.map (·.1) = ks at *
  go_enter Tryz.func66, Tryz.ntmps66
  go_wp2_with fail
  refine H.out.mono ?_
  rintro e w1 ⟨v, ss, rfl, hS, hrow, hnil, hb⟩
  clear H
  by_cases h0 : ss = []
  · subst h0
    obtain rfl := hnil.2 rfl
    have HS := Lib.hid hS
    have HB := Lib.hid hb
    have H2 := Lib.hid (sortF_nil (.func (.func 68) #[] #[]) w1)
    clear hS hb hrow hnil
    go_wp2_with fail
    refine H2.out.mono ?_
    rintro e w2 ⟨rfl, rfl⟩
    go_wp2_with fail
    go_ret
    exact ⟨⟨_, rfl, .inl ⟨rfl, List.nil_perm.1 HS.out⟩⟩, HB.out⟩
  · have hlen : ss.length ≤ 1000000 := by rw [hS.length_eq]; exact HK.out.2
    have H2 := Lib.hid (sortF_ hrow h0 hlen hS HK.out.1)
    have HB := Lib.hid hb
    clear hS hb hrow hnil hlen
    go_wp2_with fail
    refine H2.out.mono ?_
    rintro e w2 ⟨rfl, g, cap, rfl, hg, hpl, ho, ht, hou, hsz, hfar⟩
    have HE : Hid ((∃ v, Ending.returned (Value.slice (some ⟨g, 0, none⟩) ks.length cap) = .returned v ∧ ((v = .slice none 0 0 ∧ ks = []) ∨ ∃ g cap, v = .slice (some ⟨g, 0, none⟩) ks.length cap ∧ w.heap.size ≤ g ∧ PlsAt w2 g ks)) ∧ Below w.heap.size w w2) :=
      ⟨⟨_, rfl, .inr ⟨g, cap, rfl, hg, hpl⟩⟩, HB.out.trans ⟨ho, ht, hou, hsz, fun k hk => hfar k (Nat.lt_of_lt_of_le hk HB.out.size) (by omega)⟩⟩
    clear hg hpl ho ht hou hsz hfar H2 HB
    go_wp2_with fail
    go_ret
    exact HE.out
end Go.Proofs.YtjnhcanohefjiaaGreatDoor
