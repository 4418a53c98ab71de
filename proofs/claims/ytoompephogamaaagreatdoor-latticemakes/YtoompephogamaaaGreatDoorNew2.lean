/- The walk of lattice.New where every label may be: the map that is filled. -/
import Derived.Test.YtoompephogamaaaGreatDoorNew
import Derived.Maps.OwnOps
namespace Go.Proofs.YtoompephogamaaaGreatDoor
open Go.RowKit Go.Sort

theorem labV_inj {a b : Lab} (h : labV a = labV b) : a = b := by
  unfold labV at h
  simp only [Value.agg.injEq] at h
  have h1 := congrArg (fun x : Array Value => x[0]?) h
  have h2 := congrArg (fun x : Array Value => x[1]?) h
  simp at h1 h2
  exact Prod.ext h1 (by omega)
theorem zero3 (w : World) : (zeroValue 3).run Tryz.prog w = .ok (.int .i64 0) w := by kernel_rfl

theorem make47 (n : Int) (w : World) : (Instr.makeMap 51 (some (.int .i64 n))).run Tryz.prog w = .ok (.map (some w.heap.size)) (w.alloc (.map #[] 0)) := by
  simp [Instr.makeMap, run_underlying Tryz.underlying51, go_sem]

def MapFacts (D : DataW Unit) (ls : List Lab) : Prop :=
  ∀ a kl, keyOf Tryz.prog 25 (labV a) = some kl → (a ∉ ls → Maps.has D kl = false) ∧ ∀ i, i < ls.length → lab ls i = a → Maps.has D kl = true ∧ D.atKey kl (.lit (.int .i64 0)) = .lit (.int .i64 i)
theorem facts_none : MapFacts (.map []) [] := fun _ _ _ => ⟨fun _ => rfl, fun i hi => by simp at hi⟩
theorem lab_old {ls : List Lab} {a : Lab} {i : Nat} (h : i < ls.length) : lab (ls ++ [a]) i = lab ls i := by
  unfold lab; rw [List.getD_eq_getElem?_getD, List.getD_eq_getElem?_getD, List.getElem?_append_left h]
theorem lab_new {ls : List Lab} {a : Lab} : lab (ls ++ [a]) ls.length = a := by
  unfold lab; rw [List.getD_eq_getElem?_getD, List.getElem?_append_right (Nat.le_refl _)]; simp
theorem lab_mem {ls : List Lab} {i : Nat} (h : i < ls.length) : lab ls i ∈ ls := by
  unfold lab; rw [List.getD_eq_getElem?_getD, List.getElem?_eq_getElem h]; exact List.getElem_mem h
theorem facts_put {D : DataW Unit} {ls : List Lab} {a : Lab} {kl : Lit} (hF : MapFacts D ls) (hM : Go.Maps.IsMap D) (ha : a ∉ ls) (hk : keyOf Tryz.prog 25 (labV a) = some kl) :
    MapFacts (D.put kl (.lit (.int .i64 ls.length))) (ls ++ [a]) := by
  intro b klb hb
  have hne : b ≠ a → klb ≠ kl := fun h e => h (labV_inj (law.inj (e ▸ hb) hk))
  obtain ⟨f1, f2⟩ := hF b klb hb
  refine ⟨fun hbm => ?_, fun i hi hl => ?_⟩
  · simp only [List.mem_append, List.mem_singleton, not_or] at hbm
    rw [Go.Maps.has_put_other (hne hbm.2)]
    exact f1 hbm.1
  · by_cases hlt : i < ls.length
    · rw [lab_old hlt] at hl
      have hba : b ≠ a := fun e => ha (by rw [← e, ← hl]; exact lab_mem hlt)
      rw [Go.Maps.has_put_other (hne hba), Go.Maps.atKey_put_other (hne hba)]
      exact f2 i hlt hl
    · have hie : i = ls.length := by simp at hi; omega
      subst hie
      rw [lab_new] at hl
      subst hl
      obtain rfl : kl = klb := Option.some.inj (hk.symm.trans hb)
      exact ⟨Go.Maps.has_put_same hM (law.key hk) _, Go.Maps.atKey_put_same hM (law.key hk) _ _⟩
theorem take_snoc {ls : List Lab} {k : Nat} (h : k < ls.length) : ls.take (k + 1) = ls.take k ++ [lab ls k] := by
  unfold lab; rw [List.getD_eq_getElem?_getD, List.getElem?_eq_getElem h, List.take_succ_eq_append_getElem h]; rfl
theorem take_twice {ls : List Lab} {k : Nat} (h : k < ls.length) (hm : lab ls k ∈ ls.take k) : ¬ ls.Nodup := by
  intro hd
  obtain ⟨j, hj, e⟩ := List.mem_iff_getElem.1 hm
  rw [List.getElem_take] at e
  rw [List.length_take] at hj
  unfold lab at e
  rw [List.getD_eq_getElem?_getD, List.getElem?_eq_getElem h] at e
  have := nodup_inj hd (by omega) h e
  omega

set_option maxHeartbeats 2000000 in
set_option maxRecDepth 100000 in
theorem new_rest (a : Option Addr) (c : Nat) (ls : List Lab) (w : World) (h : LabsIn w a ls) (h0 : 0 < ls.length) (hn : ls.length ≤ 16) (hok : ls.all okLab = true) :
    Calls Tryz.prog 6 #[.slice a ls.length c] w fun e w' => Below w.heap.size w w' ∧ ((¬ ls.Nodup ∧ e = .returned (.tuple #[.pointer none, .iface 49 (.int .i64 9)])) ∨ (ls.Nodup ∧ ∃ q, e = .returned (.tuple #[.pointer (some ⟨q, 0, none⟩), .nilIface]) ∧ LatIn w' (.pointer (some ⟨q, 0, none⟩)) ls)) := by
  have hokj : ∀ j, j < ls.length → okLab (lab ls j) = true := fun j hj => List.all_eq_true.1 hok _ (lab_mem hj)
  have HOK := Lib.hid hokj
  have HL := Lib.hid h
  clear h hok hokj
  obtain ⟨n, hnn⟩ : ∃ n, ls.length = n := ⟨_, rfl⟩
  have HNN := Lib.hid hnn
  rw [hnn] at h0 hn HOK ⊢
  have HLn : Hid (∀ W, Below w.heap.size w W → ∀ i, i < n → ∃ b o, a = some ⟨b, o, none⟩ ∧ W.cell? ⟨b, o + i * 2, none⟩ = some (.int .i64 (lab ls i).1) ∧ W.cell? ⟨b, o + i * 2 + 1, none⟩ = some (.int .u32 (lab ls i).2)) := fun W hW i hi => HL.out.on hW i (hnn ▸ hi)
  have HCL : Hid (∀ W, LabsIn W a ls → Calls Tryz.prog 19 #[.slice a n c] W fun e w' => ∃ a' c', e = .returned (.slice a' n c') ∧ LabsIn w' a' ls ∧ Below W.heap.size W w') := fun W hh => by
    have := clone_ a c ls W hh (by omega) (by omega)
    rw [hnn] at this
    exact this
  clear hnn
  have h1 : ¬ n = 0 := by omega
  have h2 : ¬ (16 : Int) < (n : Int) := by omega
  have hmm := make47
  go_enter Tryz.func6, Tryz.ntmps6
  go_wp2_with fail
  go_loopw [22] (fun iv wr => ∃ k : Nat, k ≤ n ∧ iv = .int .i64 k ∧ Below w.heap.size w wr) (fun iv _ => n - (intOf iv).toNat)
  case atStart => exact ⟨0, Nat.zero_le _, rfl, Below.refl _ _⟩
  case round =>
    obtain ⟨k, hk, rfl, hbw⟩ := hrel
    by_cases hlt : k < n
    · obtain ⟨b, o, rfl, c1, c2⟩ := HLn.out wr hbw k hlt
      have hkk : okL (lab ls k).1 (lab ls k).2 = true := HOK.out k hlt
      have HKK := Lib.hid hkk
      clear hkk
      generalize (lab ls k).1 = r at *
      generalize (lab ls k).2 = cc at *
      go_wp2_with fail
      refine (valid12_yes r cc _ HKK.out).mono ?_
      rintro e w2 ⟨rfl, hb2⟩
      have hb3 : Below w.heap.size w w2 := (hbw.alloc hbw.size _).trans (hb2.mono (by have := hbw.size; simp; omega))
      go_wp2_with fail
      go_roundw
      case rel => exact ⟨k + 1, by omega, by go_num, hb3⟩
      case measure => simp [intOf]; omega
    · obtain rfl : k = n := by omega
      go_wp2_with fail
      rename World => W0
      have HM0 : Hid ((W0.alloc (.map #[] 0)).ownsMap Tryz.prog 25 (plainElem Tryz.prog 3) W0.heap.size 0 (.map [] : DataW Unit)) := World.ownsMap_made W0 _ _ _
      have hbm : Below w.heap.size w (W0.alloc (.map #[] 0)) := hbw.alloc hbw.size _
      go_loopw [37] (fun iv wq => ∃ (j : Nat) (D : DataW Unit), j ≤ k ∧ iv = .int .i64 j ∧ wq.ownsMap Tryz.prog 25 (plainElem Tryz.prog 3) W0.heap.size j D ∧ MapFacts D (ls.take j) ∧ (ls.take j).Nodup ∧ Below w.heap.size w wq) (fun iv _ => k - (intOf iv).toNat)
      case atStart => exact ⟨0, _, Nat.zero_le _, rfl, HM0.out, facts_none, List.nodup_nil, hbm⟩
      case round =>
        obtain ⟨j, D, hj, rfl, hown, hF, hnd, hbq⟩ := hrel
        have HMAP := Lib.hid hown
        have HF := Lib.hid hF
        have HND := Lib.hid hnd
        have hszq := hbq.size
        have hmlt := hown.lt
        clear hown hF hnd hbm HM0
        by_cases hjk : j < k
        · obtain ⟨b, o, rfl, c1, c2⟩ := HLn.out wr hbq j hjk
          obtain ⟨kl, hkey⟩ := key_some (lab ls j) (okLab_ok (HOK.out j hjk))
          have hkey' : keyOf Tryz.prog 25 (.agg #[.int .i64 (lab ls j).1, .int .u32 (lab ls j).2]) = some kl := hkey
          have HKEY := Lib.hid hkey'
          have hjl : j < ls.length := by rw [HNN.out]; exact hjk
          have HJL := Lib.hid hjl
          have htl : (ls.take j).length = j := by rw [List.length_take]; omega
          have HTL := Lib.hid htl
          have HPUT : Hid (lab ls j ∉ ls.take j → MapFacts (D.put kl (.lit (.int .i64 j))) (ls.take (j + 1))) := fun hm => by
            have := facts_put HF.out HMAP.out.isMap hm hkey
            rw [htl, ← take_snoc hjl] at this
            exact this
          have HHAS : Hid ((lab ls j ∈ ls.take j → Maps.has D kl = true) ∧ (lab ls j ∉ ls.take j → Maps.has D kl = false)) := by
            refine ⟨fun hm => ?_, (HF.out _ kl hkey).1⟩
            obtain ⟨i, hi, e⟩ := List.mem_iff_getElem.1 hm
            refine ((HF.out _ kl hkey).2 i hi ?_).1
            unfold lab
            rw [List.getD_eq_getElem?_getD, List.getElem?_eq_getElem hi]
            exact e
          clear hkey hkey' hjl htl
          generalize hR : (lab ls j).1 = r at *
          generalize hC : (lab ls j).2 = cc at *
          clear hR hC
          by_cases hm : lab ls j ∈ ls.take j
          · have hh := HHAS.out.1 hm
            have HTW := Lib.hid (take_twice HJL.out hm)
            clear hm HHAS HPUT
            go_wp2_with (first
              | (at_lookup; refine wpList_lookup_own_ok_int _ rfl _ _ 51 rfl 25 3 .i64 law Tryz.underlying51 Tryz.underlying3 (zero3 _) W0.heap.size j D rfl (HMAP.out.alloc _) _ kl rfl HKEY.out ?_; intro cv hat hwc)
              | go_in)
            have hb4 : Below w.heap.size w (wr.alloc (.cells #[.int .i64 r, .int .u32 cc] 25)) := hbq.alloc hszq _
            clear hat
            go_wp2
            go_ret2
            exact ⟨hb4, .inl ⟨HTW.out, rfl⟩⟩
          · have hh := HHAS.out.2 hm
            have HF2 := Lib.hid (HPUT.out hm)
            have HN2 : Hid ((ls.take (j + 1)).Nodup) := by
              unfold Hid
              rw [take_snoc HJL.out]
              refine List.nodup_append.2 ⟨HND.out, by simp, ?_⟩
              intro x hx y hy e
              simp only [List.mem_singleton] at hy
              subst hy; subst e
              exact hm hx
            clear hm HHAS HPUT
            go_wp2_with (first
              | (at_lookup; refine wpList_lookup_own_ok_int _ rfl _ _ 51 rfl 25 3 .i64 law Tryz.underlying51 Tryz.underlying3 (zero3 _) W0.heap.size j D rfl (HMAP.out.alloc _) _ kl rfl HKEY.out ?_; intro cv hat hwc; clear hat)
              | (at_mapUpdate; refine wpList_mapUpdate_own _ rfl _ _ _ 51 rfl 25 3 law Tryz.underlying51 (plainElem Tryz.prog 3) W0.heap.size j D rfl (HMAP.out.alloc _) (by unfold maxLen; omega) _ _ kl rfl rfl HKEY.out (.lit (.int .i64 j)) [] (plainElem_int Tryz.underlying3 (WalkArith.wf_i64 (by omega))) ?_; intro w3 hown3 hgrow3)
              | go_in)
            have hb4 : Below w.heap.size w w3 := (hbq.alloc hszq _).grown hgrow3 (by simp; omega) (fun g hg => by cases hg; exact hbw.size)
            have HM3 := Lib.hid hown3
            clear hown3 hgrow3
            go_wp2
            go_roundw
            case rel => exact ⟨j + 1, _, by omega, by go_num, HM3.out, HF2.out, HN2.out, hb4⟩
            case measure => simp [intOf]; omega
        · obtain rfl : j = k := by omega
          have HTK : Hid (ls.take j = ls) := List.take_of_length_le (by rw [HNN.out]; omega)
          go_wp2_with fail
          refine (HCL.out _ (HL.out.on hbq)).mono ?_
          rintro e w3 ⟨a3, c3, rfl, hin3, hb3⟩
          have HIN := Lib.hid hin3
          clear hin3
          go_wp2_with fail
          go_ret2
          have hb4 : Below w.heap.size w w3 := hbq.trans (hb3.mono hszq)
          refine ⟨hb4.alloc hb4.size _, .inr ⟨HTK.out ▸ HND.out, _, rfl, ?_⟩⟩
          have hal : Below w3.heap.size w3 (w3.alloc (.cells #[.slice a3 j c3, .map (some W0.heap.size)] 54)) := (Below.refl _ _).alloc (Nat.le_refl _) _
          have hmap : MapIn wr W0.heap.size ls := ⟨j, D, HMAP.out, Nat.le_of_eq HNN.out.symm, HTK.out ▸ HF.out⟩
          refine .inr ⟨w3.heap.size, a3, c3, W0.heap.size, rfl, ?_, HIN.out.on hal, ?_, (hmap.on hb3).on hal⟩
          · rw [HNN.out]; simp [go_sem]
          · simp [go_sem]
end Go.Proofs.YtoompephogamaaaGreatDoor
