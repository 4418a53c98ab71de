/- lattice.New where it gives a lattice, and the law's 'twin': what they make lies in memory of its own. -/
import Derived.Test.YtoompephogamaaaGreatDoorNew2
import Derived.Deep.AppendLies
namespace Go.Proofs.YtoompephogamaaaGreatDoor
open Go.RowKit Go.Sort

/-- A lattice all of which lies from block B on. -/
def LatOn (B : Nat) (w : World) (p : Nat) (ls : List Lab) : Prop :=
  ∃ g c m, (B ≤ p ∧ B ≤ g ∧ B ≤ m) ∧ w.cell? ⟨p, 0, none⟩ = some (.slice (some ⟨g, 0, none⟩) ls.length c) ∧ LabsIn w (some ⟨g, 0, none⟩) ls ∧ w.cell? ⟨p, 1, none⟩ = some (.map (some m)) ∧ MapIn w m ls
theorem LatOn.latIn {B : Nat} {w : World} {p : Nat} {ls : List Lab} (h : LatOn B w p ls) : LatIn w (.pointer (some ⟨p, 0, none⟩)) ls := by
  obtain ⟨g, c, m, _, h1, h2, h3, h4⟩ := h
  exact .inr ⟨p, _, c, m, rfl, h1, h2, h3, h4⟩
/-- It stays, whatever is written below B. -/
theorem LatOn.kept {B : Nat} {w W : World} {p g0 : Nat} {ls : List Lab} (h : LatOn B w p ls) (hg : w.grownBy W (some g0)) (hlt : g0 < B) : LatOn B W p ls := by
  obtain ⟨g, c, m, ⟨hp, hgg, hm⟩, h1, h2, h3, n, D, h4, h5, h6⟩ := h
  refine ⟨g, c, m, ⟨hp, hgg, hm⟩, hg.cell h1 (by simp; omega), fun i hi => ?_, hg.cell h3 (by simp; omega), n, D, h4.kept hg (by simp; omega), h5, h6⟩
  obtain ⟨b, o, e, k1, k2⟩ := h2 i hi
  have hb : b = g := by simp at e; exact e.1.symm
  exact ⟨b, o, e, hg.cell k1 (by simp; omega), hg.cell k2 (by simp; omega)⟩
theorem labs_kept {w W : World} {a : Option Addr} {g0 : Nat} {N0 : World} {ls : List Lab} (h : LabsIn w a ls) (hb : Below w.heap.size w N0) (hg : N0.grownBy W (some g0)) (hlt : w.heap.size ≤ g0) : LabsIn W a ls := by
  intro i hi
  obtain ⟨b, o, e, k1, k2⟩ := (h.on hb) i hi
  obtain ⟨b', o', e', j1, _⟩ := h i hi
  have hbb : b = b' := by rw [e] at e'; simp at e'; exact e'.1
  have := block_lt_of_cell j1
  exact ⟨b, o, e, hg.cell k1 (by simp; simp at this; omega), hg.cell k2 (by simp; simp at this; omega)⟩

set_option maxHeartbeats 1000000 in
set_option maxRecDepth 100000 in
theorem clone_on (a : Option Addr) (c : Nat) (ls : List Lab) (w : World) (h : LabsIn w a ls) (h0 : 0 < ls.length) (hn : ls.length ≤ 16) :
    Calls Tryz.prog 19 #[.slice a ls.length c] w fun e w' => ∃ g c', e = .returned (.slice (some ⟨g, 0, none⟩) ls.length c') ∧ w.heap.size ≤ g ∧ LabsIn w' (some ⟨g, 0, none⟩) ls ∧ Below w.heap.size w w' := by
  obtain ⟨b, o, rfl, _⟩ := h 0 h0
  have HL := Lib.hid h
  have hlen := labCells_len ls
  clear h
  obtain ⟨i0, hi, hz0, hz1, hz2⟩ := info_parts infoL
  have q22 : ∀ (w : World) (a : Option Addr) (n c n' c' : Nat), (binOp .eql 22 (.slice a n c) (.slice none n' c')).run Tryz.prog w = .ok (.bool a.isNone) w := fun w a n c n' c' => Lib.run_eql_slice_nil w _ _ a n c n' c' Tryz.underlying22
  go_enter Tryz.func19, Tryz.ntmps19
  go_wp2_with (first
    | (at_builtin; refine wpList_append_own _ rfl _ _ 22 rfl w.heap.size 25 i0 (.agg #[.int .i64 0, .int .u32 0]) 2 16 Tryz.underlying22 hi hz0 hz1 hz2 rfl (by decide) _ _ _ rfl (World.ownsRow_made w #[] 0 (Nat.le_refl _) (Nat.zero_le _) (by simp)) ⟨b, o, none⟩ ls.length c (labCells ls) rfl hlen (labNews (HL.out.on ((Below.refl _ _).alloc (Nat.le_refl _) _))) (labCells_one ls) (by unfold maxLen; omega) (by omega) (by simp) ?_)
    | go_in)
  intro v' w1 hown hgrow _
  obtain ⟨g, c', rfl, hg, _⟩ := hown.form h0
  obtain ⟨a', c'', e', hin⟩ := labsIn_of hown
  simp only [Value.slice.injEq] at e'
  obtain ⟨rfl, _, rfl⟩ := e'
  have hb : Below w.heap.size w w1 := ((Below.refl _ _).alloc (Nat.le_refl _) _).grown hgrow (by simp) (fun g hg => by simp [Value.ownBlock] at hg; omega)
  have HI := Lib.hid hin
  clear hown hgrow hin
  go_wp2
  go_ret
  exact ⟨g, c', rfl, hg, HI.out, hb⟩


set_option maxHeartbeats 1000000 in
theorem twin_on (a : Option Addr) (c : Nat) (ls : List Lab) (w : World) (h : LabsIn w a ls) (hn : ls.length * 16 ≤ 140737488355328) (h0 : 0 < ls.length) :
    Calls Tryz.prog 5 #[.slice a ls.length c] w fun e w' => ∃ g c', e = .returned (.slice (some ⟨g, 0, none⟩) ls.length c') ∧ (w.heap.size ≤ g ∧ g < w'.heap.size ∧ ∀ j, w'.frozen? ⟨g, j, none⟩ = false) ∧ LabsIn w' (some ⟨g, 0, none⟩) ls ∧ Below w.heap.size w w' := by
  have HL := Lib.hid h
  have hlen := labCells_len ls
  obtain ⟨i0, hi, hz0, hz1, hz2⟩ := info_parts infoL
  obtain ⟨b, o, rfl, _⟩ := h 0 h0
  have HN := Lib.hid (labNews h)
  clear h
  go_enter Tryz.func5, Tryz.ntmps5
  go_wp2_with (first
    | (at_builtin; refine wpList_append_own _ rfl _ _ 22 rfl w.heap.size 25 i0 (.agg #[.int .i64 0, .int .u32 0]) 2 16 Tryz.underlying22 hi hz0 hz1 hz2 rfl (by decide) _ _ _ rfl (World.ownsRow_nil _ _ _ _) ⟨b, o, none⟩ ls.length c (labCells ls) rfl hlen HN.out (labCells_one ls) (by unfold maxLen; omega) (by omega) (by simp) ?_)
    | go_in)
  intro v' w1 hown hgrow _
  obtain ⟨g, c', rfl, hg, hg2⟩ := hown.form h0
  have hfz : ∀ j, w1.frozen? ⟨g, j, none⟩ = false := fun j => by
    rcases hown.2 with ⟨e, _⟩ | ⟨g', cap, cur, e, _, hgg, _⟩
    · cases e
    · simp only [Value.slice.injEq, Option.some.injEq, Addr.mk.injEq] at e
      obtain ⟨⟨rfl, _⟩, _⟩ := e
      simp [World.frozen?, hgg]
  obtain ⟨a', c'', e', hin⟩ := labsIn_of hown
  simp only [Value.slice.injEq] at e'
  obtain ⟨rfl, _, rfl⟩ := e'
  have hb : Below w.heap.size w w1 := (Below.refl _ _).grown hgrow (by simp) (fun g hg => by simp [Value.ownBlock] at hg)
  have HI := Lib.hid hin
  have HFZ := Lib.hid hfz
  clear hown hgrow hin hfz
  go_wp2
  go_ret
  exact ⟨g, c', rfl, ⟨hg, hg2, HFZ.out⟩, HI.out, hb⟩

set_option maxHeartbeats 2000000 in
set_option maxRecDepth 100000 in
theorem new_on (a : Option Addr) (c : Nat) (ls : List Lab) (w : World) (h : LabsIn w a ls) (h0 : 0 < ls.length) (hn : ls.length ≤ 16) (hok : ls.all okLab = true) (hd : ls.Nodup) :
    Calls Tryz.prog 6 #[.slice a ls.length c] w fun e w' => ∃ q, e = .returned (.tuple #[.pointer (some ⟨q, 0, none⟩), .nilIface]) ∧ LatOn w.heap.size w' q ls ∧ Below w.heap.size w w' := by
  have hokj : ∀ j, j < ls.length → okLab (lab ls j) = true := fun j hj => List.all_eq_true.1 hok _ (lab_mem hj)
  have HOK := Lib.hid hokj
  have HDD := Lib.hid hd
  clear hd
  have HL := Lib.hid h
  clear h hok hokj
  obtain ⟨n, hnn⟩ : ∃ n, ls.length = n := ⟨_, rfl⟩
  have HNN := Lib.hid hnn
  rw [hnn] at h0 hn HOK ⊢
  have HLn : Hid (∀ W, Below w.heap.size w W → ∀ i, i < n → ∃ b o, a = some ⟨b, o, none⟩ ∧ W.cell? ⟨b, o + i * 2, none⟩ = some (.int .i64 (lab ls i).1) ∧ W.cell? ⟨b, o + i * 2 + 1, none⟩ = some (.int .u32 (lab ls i).2)) := fun W hW i hi => HL.out.on hW i (hnn ▸ hi)
  have HCL : Hid (∀ W, LabsIn W a ls → Calls Tryz.prog 19 #[.slice a n c] W fun e w' => ∃ g c', e = .returned (.slice (some ⟨g, 0, none⟩) n c') ∧ W.heap.size ≤ g ∧ LabsIn w' (some ⟨g, 0, none⟩) ls ∧ Below W.heap.size W w') := fun W hh => by
    have := clone_on a c ls W hh (by omega) (by omega)
    rw [hnn] at this
    exact this
  clear hnn
  have h1 : ¬ n = 0 := by omega
  have h2 : ¬ (16 : Int) < (n : Int) := by omega
  have hmm := make47
  go_enter Tryz.func6, Tryz.ntmps6
  go_wp2_with fail
  go_loopw [22] (fun iv wr => ∃ k : Nat, k ≤ n ∧ iv = .int .i64 k ∧ Below w.heap.size w wr) (fun iv _ => n - (intOf iv).toNat)
  case atStart => exact ⟨0, Nat.zero_le _, rfl, Below.refl _ _⟩
  case round =>
    obtain ⟨k, hk, rfl, hbw⟩ := hrel
    by_cases hlt : k < n
    · obtain ⟨b, o, rfl, c1, c2⟩ := HLn.out wr hbw k hlt
      have hkk : okL (lab ls k).1 (lab ls k).2 = true := HOK.out k hlt
      have HKK := Lib.hid hkk
      clear hkk
      generalize (lab ls k).1 = r at *
      generalize (lab ls k).2 = cc at *
      go_wp2_with fail
      refine (valid12_yes r cc _ HKK.out).mono ?_
      rintro e w2 ⟨rfl, hb2⟩
      have hb3 : Below w.heap.size w w2 := (hbw.alloc hbw.size _).trans (hb2.mono (by have := hbw.size; simp; omega))
      go_wp2_with fail
      go_roundw
      case rel => exact ⟨k + 1, by omega, by go_num, hb3⟩
      case measure => simp [intOf]; omega
    · obtain rfl : k = n := by omega
      go_wp2_with fail
      rename World => W0
      have HM0 : Hid ((W0.alloc (.map #[] 0)).ownsMap Tryz.prog 25 (plainElem Tryz.prog 3) W0.heap.size 0 (.map [] : DataW Unit)) := World.ownsMap_made W0 _ _ _
      have hbm : Below w.heap.size w (W0.alloc (.map #[] 0)) := hbw.alloc hbw.size _
      go_loopw [37] (fun iv wq => ∃ (j : Nat) (D : DataW Unit), j ≤ k ∧ iv = .int .i64 j ∧ wq.ownsMap Tryz.prog 25 (plainElem Tryz.prog 3) W0.heap.size j D ∧ MapFacts D (ls.take j) ∧ (ls.take j).Nodup ∧ Below w.heap.size w wq) (fun iv _ => k - (intOf iv).toNat)
      case atStart => exact ⟨0, _, Nat.zero_le _, rfl, HM0.out, facts_none, List.nodup_nil, hbm⟩
      case round =>
        obtain ⟨j, D, hj, rfl, hown, hF, hnd, hbq⟩ := hrel
        have HMAP := Lib.hid hown
        have HF := Lib.hid hF
        have HND := Lib.hid hnd
        have hszq := hbq.size
        have hmlt := hown.lt
        clear hown hF hnd hbm HM0
        by_cases hjk : j < k
        · obtain ⟨b, o, rfl, c1, c2⟩ := HLn.out wr hbq j hjk
          obtain ⟨kl, hkey⟩ := key_some (lab ls j) (okLab_ok (HOK.out j hjk))
          have hkey' : keyOf Tryz.prog 25 (.agg #[.int .i64 (lab ls j).1, .int .u32 (lab ls j).2]) = some kl := hkey
          have HKEY := Lib.hid hkey'
          have hjl : j < ls.length := by rw [HNN.out]; exact hjk
          have HJL := Lib.hid hjl
          have htl : (ls.take j).length = j := by rw [List.length_take]; omega
          have HTL := Lib.hid htl
          have HPUT : Hid (lab ls j ∉ ls.take j → MapFacts (D.put kl (.lit (.int .i64 j))) (ls.take (j + 1))) := fun hm => by
            have := facts_put HF.out HMAP.out.isMap hm hkey
            rw [htl, ← take_snoc hjl] at this
            exact this
          have HHAS : Hid ((lab ls j ∈ ls.take j → Maps.has D kl = true) ∧ (lab ls j ∉ ls.take j → Maps.has D kl = false)) := by
            refine ⟨fun hm => ?_, (HF.out _ kl hkey).1⟩
            obtain ⟨i, hi, e⟩ := List.mem_iff_getElem.1 hm
            refine ((HF.out _ kl hkey).2 i hi ?_).1
            unfold lab
            rw [List.getD_eq_getElem?_getD, List.getElem?_eq_getElem hi]
            exact e
          clear hkey hkey' hjl htl
          generalize hR : (lab ls j).1 = r at *
          generalize hC : (lab ls j).2 = cc at *
          clear hR hC
          by_cases hm : lab ls j ∈ ls.take j
          · have HTW := Lib.hid (take_twice HJL.out hm)
            exact absurd HDD.out HTW.out
          · have hh := HHAS.out.2 hm
            have HF2 := Lib.hid (HPUT.out hm)
            have HN2 : Hid ((ls.take (j + 1)).Nodup) := by
              unfold Hid
              rw [take_snoc HJL.out]
              refine List.nodup_append.2 ⟨HND.out, by simp, ?_⟩
              intro x hx y hy e
              simp only [List.mem_singleton] at hy
              subst hy; subst e
              exact hm hx
            clear hm HHAS HPUT
            go_wp2_with (first
              | (at_lookup; refine wpList_lookup_own_ok_int _ rfl _ _ 51 rfl 25 3 .i64 law Tryz.underlying51 Tryz.underlying3 (zero3 _) W0.heap.size j D rfl (HMAP.out.alloc _) _ kl rfl HKEY.out ?_; intro cv hat hwc; clear hat)
              | (at_mapUpdate; refine wpList_mapUpdate_own _ rfl _ _ _ 51 rfl 25 3 law Tryz.underlying51 (plainElem Tryz.prog 3) W0.heap.size j D rfl (HMAP.out.alloc _) (by unfold maxLen; omega) _ _ kl rfl rfl HKEY.out (.lit (.int .i64 j)) [] (plainElem_int Tryz.underlying3 (WalkArith.wf_i64 (by omega))) ?_; intro w3 hown3 hgrow3)
              | go_in)
            have hb4 : Below w.heap.size w w3 := (hbq.alloc hszq _).grown hgrow3 (by simp; omega) (fun g hg => by cases hg; exact hbw.size)
            have HM3 := Lib.hid hown3
            clear hown3 hgrow3
            go_wp2
            go_roundw
            case rel => exact ⟨j + 1, _, by omega, by go_num, HM3.out, HF2.out, HN2.out, hb4⟩
            case measure => simp [intOf]; omega
        · obtain rfl : j = k := by omega
          have HTK : Hid (ls.take j = ls) := List.take_of_length_le (by rw [HNN.out]; omega)
          go_wp2_with fail
          refine (HCL.out _ (HL.out.on hbq)).mono ?_
          rintro e w3 ⟨g3, c3, rfl, hg3, hin3, hb3⟩
          have HIN := Lib.hid hin3
          clear hin3
          go_wp2_with fail
          go_ret2
          have hb4 : Below w.heap.size w w3 := hbq.trans (hb3.mono hszq)
          have hal : Below w3.heap.size w3 (w3.alloc (.cells #[.slice (some ⟨g3, 0, none⟩) j c3, .map (some W0.heap.size)] 54)) := (Below.refl _ _).alloc (Nat.le_refl _) _
          have hmap : MapIn wr W0.heap.size ls := ⟨j, D, HMAP.out, Nat.le_of_eq HNN.out.symm, HTK.out ▸ HF.out⟩
          refine ⟨_, rfl, ⟨g3, c3, W0.heap.size, ⟨hb4.size, by omega, hbw.size⟩, ?_, HIN.out.on hal, ?_, (hmap.on hb3).on hal⟩, hb4.alloc hb4.size _⟩
          · rw [HNN.out]; simp [go_sem]
          · simp [go_sem]
end Go.Proofs.YtoompephogamaaaGreatDoor
