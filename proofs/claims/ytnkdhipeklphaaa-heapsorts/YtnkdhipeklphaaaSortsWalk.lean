/- The walk of the law HeapSorts. -/
import Derived.Test.YtnkdhipeklphaaaHTx
import Derived.Deep.CutRange
import Derived.Deep.RegionWith
namespace Go.Proofs.Ytnkdhipeklphaaa
open Go.RowKit Go.Sort

/-- The texts of those that come first. -/
def txts (l : List Sl) (k : Nat) : List ByteArray := (l.take k).map Sl.text
theorem txts_succ {l : List Sl} {k : Nat} (h : k < l.length) : txts l (k + 1) = txts l k ++ [(l[k]).text] := by
  unfold txts; rw [List.take_succ_eq_append_getElem h, List.map_append]; rfl
theorem txts_len {l : List Sl} {k : Nat} (h : k ≤ l.length) : (txts l k).length = k := by unfold txts; rw [List.length_map, List.length_take]; omega
theorem ids_at {l : List Sl} {k m : Nat} (h : k < l.length) (hm : k < m) : (ids l m).getD k 0 = (l[k]).id := by
  unfold ids
  simp [List.getD_eq_getElem?_getD, List.getElem?_map, List.getElem?_take_of_lt hm, List.getElem?_eq_getElem h]
/-- The texts come in order. -/
theorem txts_srt (g : Nat → ByteArray) (n m : Nat) : (txts (lst g n) m).Pairwise (fun s s' => Op.bytesLess s'.toList s.toList = false) := by
  have h := (srt_lst g n).sublist (List.take_sublist m _)
  unfold txts
  rw [List.pairwise_map]
  refine List.Pairwise.imp_of_mem (fun {x y} hx hy hk => ?_) h
  obtain ⟨i, _, rfl⟩ := mem_lst.1 (List.mem_of_mem_take hx)
  obtain ⟨j, _, rfl⟩ := mem_lst.1 (List.mem_of_mem_take hy)
  rcases (klt_rank (by rfl)).1 hk with h1 | ⟨h1, _⟩
  · exact less_asymm h1
  · rw [h1]; exact less_irrefl _
theorem srt_next {g : Nat → ByteArray} {n i : Nat} (hi : i + 1 < (lst g n).length) : klt ((lst g n)[i]) ((lst g n)[i + 1]) := List.pairwise_iff_getElem.1 (srt_lst g n) i (i + 1) (by omega) hi (by omega)
theorem cut_at (cut : Int) (i : Nat) (h : 0 < i) (h3 : i ≤ 300) : ∃ n : Nat, wrap64 ((IntKind.u64.wrap cut).tmod (i : Int)) = (n : Int) ∧ n < i := by
  have h0 : 0 ≤ IntKind.u64.wrap cut := by simp [IntKind.wrap, IntKind.bits, IntKind.signed]; omega
  generalize IntKind.u64.wrap cut = m at *
  rw [Int.tmod_eq_emod_of_nonneg h0]
  have h1 := Int.emod_nonneg m (show (i : Int) ≠ 0 by omega)
  have h2 := Int.emod_lt_of_pos m (show (0 : Int) < (i : Int) by omega)
  generalize m % (i : Int) = r at *
  refine ⟨r.toNat, ?_, by omega⟩
  have : wrap64 r = r := by simp [wrap64]; omega
  rw [this]; omega
/-- Least of nothing. -/
theorem least_none (W : World) : Calls Try.prog 7 #[.slice none 0 0, .int .i64 0] W fun e w' => (∃ a c, e = .returned (.slice a 0 c)) ∧ Below W.heap.size W w' := by
  refine (least_ none 0 0 0 (fun _ => ⟨#[]⟩) W (fun i hi => by omega) (by omega) 0 (by omega) [] rfl).mono ?_
  rintro e w' ⟨⟨v, rfl, ho⟩, hb⟩
  obtain ⟨a, c, rfl, _⟩ := ho.shape
  exact ⟨⟨a, c, rfl⟩, hb⟩
/-- A list in order, cut in two, and merged. -/
theorem merge_cut {w W0 W : World} {S : List ByteArray} {f0 f1 : Value} (n : Nat) (hs : S.Pairwise (fun s s' => Op.bytesLess s'.toList s.toList = false)) (hl : S.length ≤ 300) (h0 : TxS w f0 (S.take n)) (h1 : TxS w f1 (S.drop n)) (hb : Below w.heap.size w W0) (hb' : Below (W0.alloc (.cells #[f0, f1, .slice none 0 0] 23)).heap.size (W0.alloc (.cells #[f0, f1, .slice none 0 0] 23)) W) :
    Calls Try.prog 6 #[.slice (some ⟨W0.heap.size, 0, none⟩) 3 3] W fun e w' => (∃ v, e = .returned v ∧ OwnT w' W.heap.size v S) ∧ Below W.heap.size W w' := by
  have hbA : Below W0.heap.size W0 (W0.alloc (.cells #[f0, f1, .slice none 0 0] 23)) := (Below.refl _ _).alloc (Nat.le_refl _) _
  have hrow : W.heap[W0.heap.size]? = some (.cells #[f0, f1, .slice none 0 0] 23 (0, 0)) := (hb'.block _ (by simp)).trans (heap_alloc_new _ _)
  have hbw : Below w.heap.size w W := below_step (below_step hb hbA) hb'
  obtain ⟨cur, hcur⟩ : ∃ cur : Nat → List ByteArray, cur = fun i => if i = 0 then S.take n else if i = 1 then S.drop n else [] := ⟨_, rfl⟩
  have c0 : cur 0 = S.take n := by rw [hcur]; rfl
  have c1 : cur 1 = S.drop n := by rw [hcur]; rfl
  have c2 : cur 2 = [] := by rw [hcur]; rfl
  refine (merge_ W0.heap.size 0 3 3 (fun i => if i = 0 then f0 else if i = 1 then f1 else .slice none 0 0) cur W (by omega) (by omega) (fun i hi => ?_) (fun i hi => ?_) ?_).mono ?_
  · rcases (by omega : i = 0 ∨ i = 1 ∨ i = 2) with rfl | rfl | rfl <;> exact cell_of hrow rfl
  · rcases (by omega : i = 0 ∨ i = 1 ∨ i = 2) with rfl | rfl | rfl
    · rw [c0]; obtain ⟨a, c, e, h2, h3⟩ := h0; exact ⟨a, c, e, TextsAt.on h2 rfl hbw, h3⟩
    · rw [c1]; obtain ⟨a, c, e, h2, h3⟩ := h1; exact ⟨a, c, e, TextsAt.on h2 rfl hbw, h3⟩
    · rw [c2]; exact ⟨none, 0, rfl, fun j hj => by simp at hj, Nat.le_refl _, by unfold maxLen; omega⟩
  · show 0 + (cur 0).length + (cur 1).length + (cur 2).length ≤ 4000000
    rw [c0, c1, c2, List.length_take, List.length_drop]; simp; omega
  · rintro e w' ⟨⟨v, out, rfl, ho, hm⟩, hb2⟩
    have := hm.one (mg_cut (a := S.take n) (b := S.drop n) (by rw [List.take_append_drop]; exact hs) c0 c1 c2)
    rw [List.take_append_drop] at this
    subst this
    exact ⟨⟨v, rfl, ho⟩, hb2⟩
set_option maxRecDepth 100000 in
set_option maxHeartbeats 4000000 in
theorem law_sorts (a : Option Addr) (L c : Nat) (cut : Int) (l : List ByteArray) (w : World) (hL : L = l.length) (hin : Tx w a l) (hnil : a = none → c = 0) :
    Calls Try.prog 4 #[.slice a L c, .int .i64 cut] w fun e w' => e = .returned (.bool true) ∧ Below w.heap.size w w' := by
  by_cases h300 : (300 : Int) < (L : Int)
  · clear hin hnil hL
    have hd : decide ((300 : Int) < (L : Int)) = true := decide_eq_true h300
    go_enter Try.func4, Try.ntmps4
    go_wp2_with fail
    refine (sure_ w).mono ?_
    rintro e w1 ⟨rfl, hb1⟩
    go_wp2_with fail
    go_ret
    exact ⟨rfl, hb1⟩
  · have hL3 : L ≤ 300 := by omega
    have hd : decide ((300 : Int) < (L : Int)) = false := decide_eq_false h300
    have HI := Lib.hid hin
    have HLL := Lib.hid hL
    have HNIL := Lib.hid hnil
    obtain ⟨g, hg⟩ : ∃ g : Nat → ByteArray, g = fun j => l.getD j ⟨#[]⟩ := ⟨_, rfl⟩
    have HG := Lib.hid hg
    clear h300 hin hL hnil hg
    go_enter Try.func4, Try.ntmps4
    go_wp2_with (first
      | (at_builtin; refine wpList_append_texts w.heap.size _ w rfl _ _ rfl (.slice none 0 0) [] l rfl (ownT_nil _ _) a L c rfl HLL.out.symm HNIL.out HI.out (by rw [← HLL.out]; simp; omega) (Nat.le_refl _) (Below.refl _ _) ?_)
      | fail)
    intro v1 w1 hown1 hb1
    replace hown1 : OwnT w1 w.heap.size v1 l := hown1
    obtain ⟨a1, c1, rfl, ht1, _, _, _⟩ := hown1.shape
    have HLE := Lib.hid (least_ a1 L c1 (L : Int) g w1 (by rw [HG.out, HLL.out]; exact ht1) (by omega) L (by omega) (lst g L) rfl)
    rw [← HLL.out]
    have HB1 := Lib.hid hb1
    clear hb1 hown1 ht1
    go_wp2_with fail
    refine HLE.out.mono ?_
    rintro e w2 ⟨⟨v2, rfl, hown2⟩, hb2⟩
    have HX : Hid ((lst g L).length = L) := len_lst g L
    obtain ⟨a2, c2, rfl, hp2, hc2, hc2m, hsh2⟩ := hown2.shape
    have hil : (ids (lst g L) L).length = L := ids_len (by rw [HX.out]; omega)
    rw [hil] at hp2
    rw [hil]
    have HP2 := Lib.hid hp2
    have HB2 := Lib.hid (below_step HB1.out hb2)
    clear hb2 hown2 hp2 HLE HB1 hil hc2 hc2m hsh2
    go_wp2_with fail
    obtain ⟨B0, hB0⟩ : ∃ B0, B0 = w2.heap.size := ⟨_, rfl⟩
    go_loopw [7, 8] (fun sv iv wr => ∃ i : Nat, i ≤ L ∧ iv = .int .i64 i ∧ Hid (OwnT wr B0 sv (txts (lst g L) i) ∧ Below B0 w2 wr)) (fun _ iv _ => L - (intOf iv).toNat)
    case atStart => exact ⟨0, Nat.zero_le _, rfl, ownT_nil _ _, Below.refl _ _⟩
    case round =>
      obtain ⟨i, hi, rfl, H⟩ := hrel
      by_cases hlt : i < L
      · have hlt2 : (i : Int) < (L : Int) := by omega
        have hil : i < (lst g L).length := by rw [HX.out]; exact hlt
        obtain ⟨k, hk, hxk⟩ := mem_lst.1 (List.getElem_mem hil)
        have HBW : Hid (Below w.heap.size w wr) := below_step HB2.out (by rw [← hB0]; exact H.out.2)
        obtain ⟨gp, rfl, q0⟩ := HP2.out i hlt
        rw [ids_at hil hlt, hxk] at q0
        replace q0 := (H.out.2.cell (by rw [hB0]; exact block_lt_of_cell q0)).trans q0
        obtain ⟨b, o, rfl, q1⟩ := (TextsAt.on HI.out rfl HBW.out) k (by rw [← HLL.out]; exact hk)
        have HTS : Hid (txts (lst g L) (i + 1) = txts (lst g L) i ++ [g k]) := by
          rw [txts_succ hil, hxk]; rfl
        have htl : (txts (lst g L) i).length = i := txts_len (by omega)
        have hgk : l.getD k ⟨#[]⟩ = g k := by rw [HG.out]
        simp only [hgk] at q1
        simp only [txS] at q0
        have HOW := Lib.hid H.out.1
        have HBR := Lib.hid H.out.2
        have k0 : decide ((k : Int) < 0) = false := decide_eq_false (by omega)
        have k1 : decide ((L : Int) ≤ (k : Int)) = false := decide_eq_false (by omega)
        have k2 : (k : Int) < (L : Int) := by omega
        have k1n : decide (L ≤ k) = false := decide_eq_false (by omega)
        cases i with
        | zero =>
          generalize g k = s at *
          clear H hil hxk hgk
          rw [show ((0 : Nat) : Int) = 0 from rfl]
          go_wp2_with fail
          try simp only [List.append]
          go_big_quiet (fail)
          have HOWq : Hid (OwnT (wr.drewN nq) B0 u7 (txts (lst g L) 0) ∧ Below B0 w2 (wr.drewN nq)) := ⟨HOW.out.on (below_drewN (Below.refl _ _) nq), below_drewN HBR.out nq⟩
          have q0n : (wr.drewN nq).cell? ⟨gp, 0, none⟩ = some (.int .i64 (k : Int)) := q0
          have q1n : (wr.drewN nq).cell? ⟨b, o + k, none⟩ = some (.string s) := q1
          generalize wr.drewN nq = wq at *
          clear HOW HBR
          go_wp2_with (first
            | (at_builtin; refine wpList_append_texts B0 _ w2 rfl _ _ rfl u7 (txts (lst g L) 0) [s] rfl (HOWq.out.1.on ((Below.refl _ _).alloc (Nat.le_refl _) _)) (some ⟨wq.heap.size, 0, none⟩) 1 1 rfl rfl (fun hh => by cases hh) (one_text _ _ _) (by rw [htl, List.length_singleton]; omega) (Nat.le_of_eq hB0) ((HOWq.out.2).alloc (by rw [hB0]; exact HOWq.out.2.size) _) ?_)
            | fail)
          intro v3 w3 hown3 hb3
          have HE : Hid (OwnT w3 B0 v3 (txts (lst g L) (0 + 1)) ∧ Below B0 w2 w3) := ⟨by rw [HTS.out, hB0]; exact hown3, by rw [hB0]; exact hb3⟩
          clear hown3 hb3 HOWq
          go_wp2_with fail
          go_roundw
          case rel => exact ⟨0 + 1, by omega, by go_num, HE.out⟩
          case measure => simp [intOf]; omega
        | succ j =>
          have hjl : j < (lst g L).length := by omega
          obtain ⟨k', hk', hxk'⟩ := mem_lst.1 (List.getElem_mem hjl)
          obtain ⟨gp', e', p0⟩ := HP2.out j (by omega)
          cases e'
          rw [ids_at hjl (by omega), hxk'] at p0
          replace p0 := (HBR.out.cell (by rw [hB0]; exact block_lt_of_cell p0)).trans p0
          obtain ⟨b', o', e', p1⟩ := (TextsAt.on HI.out rfl HBW.out) k' (by rw [← HLL.out]; exact hk')
          cases e'
          have hgk' : l.getD k' ⟨#[]⟩ = g k' := by rw [HG.out]
          simp only [hgk'] at p1
          simp only [txS] at p0
          have hn := srt_next hil
          rw [hxk, hxk'] at hn
          have hn2 := (klt_rank (by rfl)).1 hn
          simp only [txS] at hn2
          have k4 : (k' : Int) < (L : Int) := by omega
          have hj2 : (j : Int) < (L : Int) := by omega
          have hj3 : (j : Int) + 1 < (L : Int) := by omega
          generalize g k = s at *
          generalize g k' = s' at *
          clear H hil hjl hxk hxk' hgk hgk' hn
          rw [show ((j + 1 : Nat) : Int) = (j : Int) + 1 from rfl] at hlt2
          rw [show ((j + 1 : Nat) : Int) = (j : Int) + 1 from rfl]
          rcases hn2 with e1 | ⟨e1, e2⟩
          · have e3 : (s'.toList == s.toList) = false := beq_eq_false_iff_ne.2 (fun e => by rw [e, less_irrefl] at e1; cases e1)
            go_wp2_with fail
            try simp only [List.append]
            go_big_quiet (fail)
            have HOWq : Hid (OwnT (wr.drewN nq) B0 u7 (txts (lst g L) (j + 1)) ∧ Below B0 w2 (wr.drewN nq)) := ⟨HOW.out.on (below_drewN (Below.refl _ _) nq), below_drewN HBR.out nq⟩
            have q0n : (wr.drewN nq).cell? ⟨gp, (j + 1), none⟩ = some (.int .i64 (k : Int)) := q0
            have q1n : (wr.drewN nq).cell? ⟨b, o + k, none⟩ = some (.string s) := q1
            generalize wr.drewN nq = wq at *
            clear HOW HBR
            go_wp2_with (first
              | (at_builtin; refine wpList_append_texts B0 _ w2 rfl _ _ rfl u7 (txts (lst g L) (j + 1)) [s] rfl (HOWq.out.1.on ((Below.refl _ _).alloc (Nat.le_refl _) _)) (some ⟨wq.heap.size, 0, none⟩) 1 1 rfl rfl (fun hh => by cases hh) (one_text _ _ _) (by rw [htl, List.length_singleton]; omega) (Nat.le_of_eq hB0) ((HOWq.out.2).alloc (by rw [hB0]; exact HOWq.out.2.size) _) ?_)
              | fail)
            intro v3 w3 hown3 hb3
            have HE : Hid (OwnT w3 B0 v3 (txts (lst g L) ((j + 1) + 1)) ∧ Below B0 w2 w3) := ⟨by rw [HTS.out, hB0]; exact hown3, by rw [hB0]; exact hb3⟩
            clear hown3 hb3 HOWq
            go_wp2_with fail
            go_roundw
            case rel => exact ⟨(j + 1) + 1, by omega, by go_num, HE.out⟩
            case measure => simp [intOf]; omega
          · obtain rfl := toList_inj e1
            have e3 : decide ((k : Int) ≤ (k' : Int)) = false := decide_eq_false (by omega)
            have e4 : decide (k ≤ k') = false := decide_eq_false (by omega)
            have e5 : Op.bytesLess s'.toList s'.toList = false := less_irrefl _
            go_wp2_with fail
            try simp only [List.append]
            go_big_quiet (fail)
            have HOWq : Hid (OwnT (wr.drewN nq) B0 u7 (txts (lst g L) (j + 1)) ∧ Below B0 w2 (wr.drewN nq)) := ⟨HOW.out.on (below_drewN (Below.refl _ _) nq), below_drewN HBR.out nq⟩
            have q0n : (wr.drewN nq).cell? ⟨gp, (j + 1), none⟩ = some (.int .i64 (k : Int)) := q0
            have q1n : (wr.drewN nq).cell? ⟨b, o + k, none⟩ = some (.string s') := q1
            generalize wr.drewN nq = wq at *
            clear HOW HBR
            go_wp2_with (first
              | (at_builtin; refine wpList_append_texts B0 _ w2 rfl _ _ rfl u7 (txts (lst g L) (j + 1)) [s'] rfl (HOWq.out.1.on ((Below.refl _ _).alloc (Nat.le_refl _) _)) (some ⟨wq.heap.size, 0, none⟩) 1 1 rfl rfl (fun hh => by cases hh) (one_text _ _ _) (by rw [htl, List.length_singleton]; omega) (Nat.le_of_eq hB0) ((HOWq.out.2).alloc (by rw [hB0]; exact HOWq.out.2.size) _) ?_)
              | fail)
            intro v3 w3 hown3 hb3
            have HE : Hid (OwnT w3 B0 v3 (txts (lst g L) ((j + 1) + 1)) ∧ Below B0 w2 w3) := ⟨by rw [HTS.out, hB0]; exact hown3, by rw [hB0]; exact hb3⟩
            clear hown3 hb3 HOWq
            go_wp2_with fail
            go_roundw
            case rel => exact ⟨(j + 1) + 1, by omega, by go_num, HE.out⟩
            case measure => simp [intOf]; omega
      · obtain rfl : i = L := by omega
        obtain ⟨how, hbr⟩ := H.out
        obtain ⟨S, hS⟩ : ∃ S, S = txts (lst g i) i := ⟨_, rfl⟩
        have HSRT : Hid (S.Pairwise (fun s s' => Op.bytesLess s'.toList s.toList = false)) := by rw [hS]; exact txts_srt g i i
        have htl : S.length = i := by rw [hS]; exact txts_len (by rw [HX.out]; omega)
        rw [← hS] at how
        have HBW : Hid (Below w.heap.size w wr) := below_step HB2.out (by rw [← hB0]; exact hbr)
        obtain ⟨a7, c7, rfl, ht7, hl7, hm7, hsh7⟩ := how.shape
        have HT7 := Lib.hid ht7
        rw [htl] at hl7
        rw [htl]
        clear how hbr H hS HP2 HX hB0 HI ht7 HB2 HG
        by_cases hpos : 0 < i
        · have hp2 : (0 : Int) < (i : Int) := by omega
          go_wp2_with fail
          obtain ⟨n, hn, hni⟩ := cut_at cut i hpos hL3
          rw [hn]
          clear hn
          have hni2 : (n : Int) < (i : Int) := by omega
          rcases hsh7 with ⟨_, _, hnil7⟩ | ⟨gs, rfl⟩
          · exfalso; rw [hnil7] at htl; simp at htl; omega
          · have HF0 : Hid (TxS wr (.slice (some ⟨gs, 0, none⟩) n n) (S.take n)) := by
              have e : (S.take n).length = n := by rw [List.length_take, htl]; omega
              exact ⟨some ⟨gs, 0, none⟩, n, by rw [e], Tx.take HT7.out n, by rw [e]; exact Nat.le_refl _, by unfold maxLen; omega⟩
            have HF1 : Hid (TxS wr (.slice (some ⟨gs, n, none⟩) (i - n) (c7 - n)) (S.drop n)) := by
              have e : (S.drop n).length = i - n := by rw [List.length_drop, htl]
              have := Tx.drop HT7.out n
              rw [Nat.zero_add] at this
              exact ⟨some ⟨gs, n, none⟩, c7 - n, by rw [e], this, by rw [e]; omega, by unfold maxLen at *; omega⟩
            have HLE3 : Hid (S.length ≤ 300) := by show S.length ≤ 300; omega
            have hnc : ¬ c7 = n := by omega
            have hnc7 : (n : Int) ≤ (c7 : Int) := by omega
            clear hm7
            go_cut [10, 11] from 119 (fun u10 u11 wx => ∃ aL cL aM cM, u10 = .slice aL 0 cL ∧ u11 = .slice aM i cM ∧ Hid (Tx wx aM S ∧ Below wr.heap.size wr wx))
            case first =>
              go_region_with (first
                | (go_at_call 7; refine (least_none _).mono ?_; rintro e wL ⟨⟨aL, cL, rfl⟩, hbL⟩)
                | (go_at_call 6; refine (merge_cut n HSRT.out HLE3.out HF0.out HF1.out (by first | exact below_drew _ | exact Below.refl _ _ | exact below_step (below_drew _) hbL) (by first | exact below_drew _ | exact Below.refl _ _ | exact hbL | exact below_step (below_drew _) hbL)).mono ?_; rintro e wM ⟨⟨vM, rfl, hoM⟩, hbM⟩))
              all_goals
                obtain ⟨aM, cM, rfl, htM, _⟩ := hoM.shape
                have HE : Hid (S.length = i) := htl
                rw [htl]
                have HM := Lib.hid htM
                have HBL := Lib.hid hbL
                have HBM := Lib.hid hbM
                clear htM hbL hbM hoM
                go_wp2_with fail
                go_meet
                case rel =>
                  refine ⟨aL, cL, aM, cM, rfl, rfl, ?_⟩
                  first
                  | exact ⟨HM.out.on HBL.out, below_step (below_step (below_step (below_drew _) ((Below.refl _ _).alloc (Nat.le_refl _) _)) HBM.out) HBL.out⟩
                  | exact ⟨HM.out, below_step (below_step (below_step (below_drew _) ((Below.refl _ _).alloc (Nat.le_refl _) _)) HBL.out) HBM.out⟩
                  | exact ⟨HM.out, below_step (below_step (below_step (below_drew _) HBL.out) ((Below.refl _ _).alloc (Nat.le_refl _) _)) HBM.out⟩
            case rest =>
              obtain ⟨aL, cL, aM, cM, rfl, rfl, HC⟩ := hcut
              have HTX := Lib.hid (texts_ aM (some ⟨gs, 0, none⟩) i cM c7 S wc htl.symm HC.out.1 (Tx.on HT7.out HC.out.2) (by omega))
              go_wp2_with fail
              refine HTX.out.mono ?_
              rintro e w8 ⟨rfl, hb8⟩
              have HB8 := Lib.hid (below_step (below_step HBW.out HC.out.2) hb8)
              clear hb8 HTX HC
              go_wp2_with fail
              refine (sure_ w8).mono ?_
              rintro e w9 ⟨rfl, hb9⟩
              have HB9 := Lib.hid (below_step HB8.out hb9)
              clear hb9
              go_wp2_with fail
              go_ret
              exact ⟨rfl, HB9.out⟩
        · obtain rfl : i = 0 := by omega
          obtain rfl : S = [] := List.eq_nil_of_length_eq_zero htl
          have HLE3 : Hid (([] : List ByteArray).length ≤ 300) := by show ([] : List ByteArray).length ≤ 300; simp
          have hz : ((0 : Nat) : Int) = 0 := rfl
          rw [hz]
          rcases hsh7 with ⟨rfl, rfl, _⟩ | ⟨gs, rfl⟩
          · have HF0 : Hid (TxS wr (.slice none 0 0) (([] : List ByteArray).take 0)) := ⟨none, 0, rfl, fun j hj => by simp at hj, Nat.le_refl _, by unfold maxLen; omega⟩
            have HF1 : Hid (TxS wr (.slice none 0 0) (([] : List ByteArray).drop 0)) := ⟨none, 0, rfl, fun j hj => by simp at hj, Nat.le_refl _, by unfold maxLen; omega⟩
            go_wp2_with fail
            go_cut [10, 11] from 119 (fun u10 u11 wx => ∃ aL cL aM cM, u10 = .slice aL 0 cL ∧ u11 = .slice aM 0 cM ∧ Hid (Tx wx aM [] ∧ Below wr.heap.size wr wx))
            case first =>
              go_region_with (first
                | (go_at_call 7; refine (least_none _).mono ?_; rintro e wL ⟨⟨aL, cL, rfl⟩, hbL⟩)
                | (go_at_call 6; refine (merge_cut 0 List.Pairwise.nil HLE3.out HF0.out HF1.out (by first | exact below_drew _ | exact Below.refl _ _ | exact below_step (below_drew _) hbL) (by first | exact below_drew _ | exact Below.refl _ _ | exact hbL | exact below_step (below_drew _) hbL)).mono ?_; rintro e wM ⟨⟨vM, rfl, hoM⟩, hbM⟩))
              all_goals
                obtain ⟨aM, cM, rfl, htM, _⟩ := hoM.shape
                have HE : Hid (([] : List ByteArray).length = 0) := htl
                rw [htl]
                have HM := Lib.hid htM
                have HBL := Lib.hid hbL
                have HBM := Lib.hid hbM
                clear htM hbL hbM hoM
                go_wp2_with fail
                go_meet
                case rel =>
                  refine ⟨aL, cL, aM, cM, rfl, rfl, ?_⟩
                  first
                  | exact ⟨HM.out.on HBL.out, below_step (below_step (below_step (below_drew _) ((Below.refl _ _).alloc (Nat.le_refl _) _)) HBM.out) HBL.out⟩
                  | exact ⟨HM.out, below_step (below_step (below_step (below_drew _) ((Below.refl _ _).alloc (Nat.le_refl _) _)) HBL.out) HBM.out⟩
                  | exact ⟨HM.out, below_step (below_step (below_step (below_drew _) HBL.out) ((Below.refl _ _).alloc (Nat.le_refl _) _)) HBM.out⟩
            case rest =>
              obtain ⟨aL, cL, aM, cM, rfl, rfl, HC⟩ := hcut
              have HTX := Lib.hid (texts_ aM none 0 cM 0 [] wc htl.symm HC.out.1 (Tx.on HT7.out HC.out.2) (by omega))
              go_wp2_with fail
              refine HTX.out.mono ?_
              rintro e w8 ⟨rfl, hb8⟩
              have HB8 := Lib.hid (below_step (below_step HBW.out HC.out.2) hb8)
              clear hb8 HTX HC
              go_wp2_with fail
              refine (sure_ w8).mono ?_
              rintro e w9 ⟨rfl, hb9⟩
              have HB9 := Lib.hid (below_step HB8.out hb9)
              clear hb9
              go_wp2_with fail
              go_ret
              exact ⟨rfl, HB9.out⟩
          · have HF0 : Hid (TxS wr (.slice (some ⟨gs, 0, none⟩) 0 0) (([] : List ByteArray).take 0)) := ⟨_, 0, rfl, fun j hj => by simp at hj, Nat.le_refl _, by unfold maxLen; omega⟩
            have HF1 : Hid (TxS wr (.slice (some ⟨gs, 0, none⟩) 0 c7) (([] : List ByteArray).drop 0)) := ⟨_, c7, rfl, fun j hj => by simp at hj, Nat.zero_le _, hm7⟩
            go_wp2_with fail
            go_cut [10, 11] from 119 (fun u10 u11 wx => ∃ aL cL aM cM, u10 = .slice aL 0 cL ∧ u11 = .slice aM 0 cM ∧ Hid (Tx wx aM [] ∧ Below wr.heap.size wr wx))
            case first =>
              go_region_with (first
                | (go_at_call 7; refine (least_none _).mono ?_; rintro e wL ⟨⟨aL, cL, rfl⟩, hbL⟩)
                | (go_at_call 6; refine (merge_cut 0 List.Pairwise.nil HLE3.out HF0.out HF1.out (by first | exact below_drew _ | exact Below.refl _ _ | exact below_step (below_drew _) hbL) (by first | exact below_drew _ | exact Below.refl _ _ | exact hbL | exact below_step (below_drew _) hbL)).mono ?_; rintro e wM ⟨⟨vM, rfl, hoM⟩, hbM⟩))
              all_goals
                obtain ⟨aM, cM, rfl, htM, _⟩ := hoM.shape
                have HE : Hid (([] : List ByteArray).length = 0) := htl
                rw [htl]
                have HM := Lib.hid htM
                have HBL := Lib.hid hbL
                have HBM := Lib.hid hbM
                clear htM hbL hbM hoM
                go_wp2_with fail
                go_meet
                case rel =>
                  refine ⟨aL, cL, aM, cM, rfl, rfl, ?_⟩
                  first
                  | exact ⟨HM.out.on HBL.out, below_step (below_step (below_step (below_drew _) ((Below.refl _ _).alloc (Nat.le_refl _) _)) HBM.out) HBL.out⟩
                  | exact ⟨HM.out, below_step (below_step (below_step (below_drew _) ((Below.refl _ _).alloc (Nat.le_refl _) _)) HBL.out) HBM.out⟩
                  | exact ⟨HM.out, below_step (below_step (below_step (below_drew _) HBL.out) ((Below.refl _ _).alloc (Nat.le_refl _) _)) HBM.out⟩
            case rest =>
              obtain ⟨aL, cL, aM, cM, rfl, rfl, HC⟩ := hcut
              have HTX := Lib.hid (texts_ aM (some ⟨gs, 0, none⟩) 0 cM c7 [] wc htl.symm HC.out.1 (Tx.on HT7.out HC.out.2) (by omega))
              go_wp2_with fail
              refine HTX.out.mono ?_
              rintro e w8 ⟨rfl, hb8⟩
              have HB8 := Lib.hid (below_step (below_step HBW.out HC.out.2) hb8)
              clear hb8 HTX HC
              go_wp2_with fail
              refine (sure_ w8).mono ?_
              rintro e w9 ⟨rfl, hb9⟩
              have HB9 := Lib.hid (below_step HB8.out hb9)
              clear hb9
              go_wp2_with fail
              go_ret
              exact ⟨rfl, HB9.out⟩
end Go.Proofs.Ytnkdhipeklphaaa
