/- The walk of the document's Next; The document's Has, Empty, Prefix; The document's All: the pairs of a list that lie in a range. -/
import Derived.Test.YteeojhmdefhlmaaCuNx
import Derived.Deep.RegionHeld3
import Derived.Test.YteeojhmdefhlmaaCuMeet
import Derived.Test.YteeojhmdefhlmaaCuSel
import Derived.Test.YteeojhmdefhlmaaCuWork
import Derived.Test.YteeojhmdefhlmaaVSplit
namespace Go.Proofs.Yteeojhmdefhlmaa
open Go.RowKit Go.Sort

set_option maxRecDepth 100000 in
set_option maxHeartbeats 1000000 in
theorem rnext_ (s : ByteArray) (w : World) (hs : s.size ≤ 140737488351232) :
    Calls Try.prog 33 #[.string s] w fun e w' => e = .returned (nxtV s.data.toList) ∧ Below w.heap.size w w' := by
  obtain ⟨R, hR⟩ : ∃ R, R = nxtV s.data.toList := ⟨_, rfl⟩
  have HR := Lib.hid hR
  rw [← hR]
  clear hR
  go_enter Try.func33, Try.ntmps33
  go_wp2_with fail
  go_loopw [4] (fun jv wr => ∃ j : Nat, j ≤ s.size ∧ jv = .int .i64 ((j : Int) - 1) ∧ Hid (full (s.data.toList.drop j)) ∧ wr = w) (fun jv _ => (intOf jv + 1).toNat)
  case atStart => exact ⟨s.size, Nat.le_refl _, rfl, by intro x hx; rw [size_list, List.drop_length] at hx; simp at hx, rfl⟩
  case round =>
    obtain ⟨j, hj, rfl, HF, rfl⟩ := hrel
    cases j with
    | zero =>
      have HX : Hid (R = .tuple #[.string ⟨#[]⟩, .bool false]) := by
        show _ = _
        have h0 := HF.out
        rw [List.drop_zero] at h0
        rw [HR.out, nxt_full h0]
      clear HF HR
      go_wp2_with fail
      exact bodyPost_ret (v := .tuple #[.string ⟨#[]⟩, .bool false]) (by simp [results, Try.results33, go_sem]) rfl ⟨by rw [HX.out], Below.refl _ _⟩
    | succ m =>
      have hm : m < s.size := by omega
      have hml : m < s.data.toList.length := by rw [← size_list]; exact hm
      have hsm : s.data.toList[m] = s[m] := rfl
      have em : (((m + 1 : Nat) : Int) - 1) = (m : Int) := by omega
      rw [em]
      by_cases hc : s[m].toNat = 255
      · have hq : ¬ ((s[m].toNat : Nat) : Int) < 255 := by omega
        have HF2 : Hid (full (s.data.toList.drop m)) := full_step hml (by rw [hsm]; exact hc) HF.out
        clear HF hsm HR
        go_wp2_with fail
        go_roundw
        case rel => exact ⟨m, by omega, by go_num, HF2, trivial⟩
        case measure => simp [intOf]
      · have hlt := s[m].toNat_lt
        have hq : ((s[m].toNat : Nat) : Int) < 255 := by omega
        have HX : Hid (R = .tuple #[.string ⟨(s.data.toList.take m ++ [UInt8.ofNat (s[m].toNat + 1)]).toArray⟩, .bool true]) := by
          show _ = _
          rw [HR.out, nxt_here hml (by rw [hsm]; exact hc) HF.out, hsm]
        have hcv : ∀ W : World, (convert 56 9 (.slice (some ⟨W.heap.size, 0, none⟩) 1 1)).run Try.prog (W.alloc (.cells #[.int .u8 ((s[m].toNat : Int) + 1)] 5)) = .ok (.string ⟨#[UInt8.ofNat (s[m].toNat + 1)]⟩) (W.alloc (.cells #[.int .u8 ((s[m].toNat : Int) + 1)] 5)) := fun W => by
          have := conv_ (W.alloc (.cells #[.int .u8 ((s[m].toNat : Int) + 1)] 5)) (some ⟨W.heap.size, 0, none⟩) 1 1 [s[m].toNat + 1] rfl (one_in (by simp [go_sem]))
          exact this
        have HXR : Hid ((s.extract 0 m ++ ⟨#[UInt8.ofNat (s[m].toNat + 1)]⟩ : ByteArray) = ⟨(s.data.toList.take m ++ [UInt8.ofNat (s[m].toNat + 1)]).toArray⟩) := by
          show _ = _
          apply ba_ext
          rw [ba_append, ext_list]
        have hsz : (s.extract 0 m).size ≤ 140737488351232 := by rw [size_list, ext_list, List.length_take, ← size_list]; omega
        have hwr : IntKind.u8.wrap ((s[m].toNat : Int) + 1) = (s[m].toNat : Int) + 1 := by
          show ((s[m].toNat : Int) + 1) % 256 = _
          omega
        have hsz1 : (⟨#[UInt8.ofNat (s[m].toNat + 1)]⟩ : ByteArray).size = 1 := rfl
        clear HF HR hsm
        go_wp2_with fail
        have hA := hcv wr
        have hB : (convert 56 9 (.slice (some ⟨wr.heap.size, 0, none⟩) 1 1)).run Try.prog (wr.drew.alloc (.cells #[.int .u8 ((s[m].toNat : Int) + 1)] 5)) = .ok (.string ⟨#[UInt8.ofNat (s[m].toNat + 1)]⟩) (wr.drew.alloc (.cells #[.int .u8 ((s[m].toNat : Int) + 1)] 5)) := hcv wr.drew
        have hC : (convert 56 9 (.slice (some ⟨wr.heap.size, 0, none⟩) 1 1)).run Try.prog (wr.alloc (.cells #[.int .u8 ((s[m].toNat : Int) + 1)] 5)).drew = .ok (.string ⟨#[UInt8.ofNat (s[m].toNat + 1)]⟩) (wr.alloc (.cells #[.int .u8 ((s[m].toNat : Int) + 1)] 5)).drew := conv_ (wr.alloc (.cells #[.int .u8 ((s[m].toNat : Int) + 1)] 5)).drew (some ⟨wr.heap.size, 0, none⟩) 1 1 [s[m].toNat + 1] rfl ((one_in (by simp [go_sem]) : BytesIn (wr.alloc (.cells #[.int .u8 ((s[m].toNat : Int) + 1)] 5)) (some ⟨wr.heap.size, 0, none⟩) [s[m].toNat + 1]).on (Below.refl _ _).drew)
        clear hcv
        generalize (⟨#[UInt8.ofNat (s[m].toNat + 1)]⟩ : ByteArray) = RR at *
        refine wp_region_noPanic ?_
        go_region_with (fail)
        all_goals (refine NoPanic.normal ?_; go_wp2_with fail)
        all_goals exact bodyPost_ret (v := .tuple #[.string (s.extract 0 m ++ RR), .bool true]) (by simp [results, Try.results33, go_sem]) rfl ⟨by rw [HX.out, HXR.out], by first | exact ((Below.refl _ _).alloc (Nat.le_refl _) _).drew | exact (Below.refl _ _).drew.alloc (Nat.le_refl _) _ | exact (Below.refl _ _).alloc (Nat.le_refl _) _⟩
end Go.Proofs.Yteeojhmdefhlmaa

namespace Go.Proofs.Yteeojhmdefhlmaa
open Go.RowKit Go.Sort

set_option maxRecDepth 100000 in
set_option maxHeartbeats 1000000 in
theorem rhas_ (r : Rg) (k : ByteArray) (w : World) : Calls Try.prog 8 #[rgV r, .string k] w fun e w' => e = .returned (.bool (hasR r k)) ∧ Below w.heap.size w w' := by
  obtain ⟨f, t, hf, ht, pf, po⟩ := r
  obtain ⟨b1, hb1⟩ : ∃ b, b = behR ⟨f, t, hf, ht, pf, po⟩ k := ⟨_, rfl⟩
  obtain ⟨b2, hb2⟩ : ∃ b, b = ahdR ⟨f, t, hf, ht, pf, po⟩ k := ⟨_, rfl⟩
  obtain ⟨R, hR⟩ : ∃ R, R = hasR ⟨f, t, hf, ht, pf, po⟩ k := ⟨_, rfl⟩
  have HR : Hid (R = (b1 && b2)) := by show _ = _; rw [hR, hb1, hb2]; rfl
  rw [← hR]
  obtain ⟨W0, hW0⟩ : ∃ W0, W0 = w.alloc (.cells #[.string f, .string t, .bool hf, .bool ht, .bool pf, .bool po] 23) := ⟨_, rfl⟩
  have HB : Hid (Below w.heap.size w W0) := by show Below _ _ _; rw [hW0]; exact below_alloc w _
  obtain ⟨c0, c1, c2, c3, c4, c5⟩ : RgAt W0 w.heap.size ⟨f, t, hf, ht, pf, po⟩ := by rw [hW0]; exact rgAt_new w ⟨f, t, hf, ht, pf, po⟩ _
  have HB1 := Lib.hid hb1
  have HB2 := Lib.hid hb2
  clear hR hb1 hb2
  unfold rgV
  dsimp only at *
  go_enter Try.func8, Try.ntmps8
  go_upto_region 1 with fail
  rw [← hW0]
  clear hW0
  generalize hn : w.heap.size = n at *
  have HNn := Lib.hid hn
  clear hn
  go_cut [5] from 7 to 26 (fun s wx => s = .bool b1 ∧ wx = W0)
  case first =>
    clear c1 c3 c5
    rcases ord3 k f with ⟨h1, h2, h3, _, _, h5, h6, _⟩ | ⟨h1, h2, h3, _, _, h5, h6, _⟩ | ⟨h1, h2, h3, _, _, h5, h6, _⟩
    all_goals (
      cases hf <;> cases pf
      all_goals (
        go_wp2_with fail
        go_meet
        case rel => exact ⟨by rw [HB1.out]; simp [behR, h5, h6], rfl⟩))
  case rest =>
    obtain ⟨rfl, hw⟩ := hcut
    subst hw
    go_upto_region 2 with fail
    go_cut [6] from 27 to 46 (fun s wx => s = .bool b2 ∧ wx = wc)
    case first =>
      clear c0 c2 c4
      rcases ord3 k t with ⟨h1, h2, h3, _, h5, _, h6, _⟩ | ⟨h1, h2, h3, _, h5, _, h6, _⟩ | ⟨h1, h2, h3, _, h5, _, h6, _⟩
      all_goals (
        cases ht <;> cases po
        all_goals (
          go_wp2_with fail
          go_meet
          case rel => exact ⟨by rw [HB2.out]; simp [ahdR, h5, h6], rfl⟩))
    case rest =>
      obtain ⟨rfl, hw⟩ := hcut
      subst hw
      cases b1
      all_goals (
        go_wp2_with fail
        go_ret
        exact ⟨by rw [HR.out]; simp, by rw [HNn.out]; exact HB.out⟩)
theorem has_same (f : ByteArray) (pf po : Bool) : hasR ⟨f, f, true, true, pf, po⟩ f = (!pf && !po) := by
  unfold hasR behR ahdR
  simp [ltb_irrefl, sameb_self]
set_option maxRecDepth 100000 in
set_option maxHeartbeats 1000000 in
theorem rempty_ (r : Rg) (w : World) : Calls Try.prog 10 #[rgV r] w fun e w' => e = .returned (.bool (empR r)) ∧ Below w.heap.size w w' := by
  obtain ⟨f, t, hf, ht, pf, po⟩ := r
  have HB := Lib.hid (below_alloc w (.cells #[.string f, .string t, .bool hf, .bool ht, .bool pf, .bool po] 23))
  obtain ⟨R, hR⟩ : ∃ R, R = empR ⟨f, t, hf, ht, pf, po⟩ := ⟨_, rfl⟩
  have HR := Lib.hid hR
  rw [← hR]
  clear hR
  have HH : Hid (∀ W, Calls Try.prog 8 #[rgV ⟨f, f, true, true, pf, po⟩, .string f] W fun e w' => e = .returned (.bool (!pf && !po)) ∧ Below W.heap.size W w') := fun W => by
    have := rhas_ ⟨f, f, true, true, pf, po⟩ f W
    rw [has_same] at this
    exact this
  unfold rgV at *
  dsimp only at *
  cases hf with
  | false =>
    go_enter Try.func10, Try.ntmps10
    go_wp2_with fail
    go_ret
    exact ⟨by rw [HR.out]; simp [empR], HB.out⟩
  | true =>
    cases ht with
    | false =>
      go_enter Try.func10, Try.ntmps10
      go_wp2_with fail
      go_ret
      exact ⟨by rw [HR.out]; simp [empR], HB.out⟩
    | true =>
      have hne : ∀ {a b : ByteArray}, a ≠ b → (a.toList == b.toList) = false := fun {a b} h => by
        simp only [beq_eq_false_iff_ne, ne_eq]
        exact fun e => h (toList_inj e)
      rcases ltb_cases f t with q | rfl | q
      · have h1 : Op.bytesLess f.toList t.toList = true := q
        have h2 : Op.bytesLess t.toList f.toList = false := ltb_asymm q
        have h3 := hne (ltb_ne q)
        have h5 := ltb_asymm q
        have h6 := sameb_lt q
        clear hne
        go_enter Try.func10, Try.ntmps10
        go_wp2_with fail
        go_ret
        exact ⟨by rw [HR.out]; simp [empR, h5, h6], HB.out⟩
      · have h1 : Op.bytesLess f.toList f.toList = false := less_irrefl _
        have h3 : (f.toList == f.toList) = true := by simp
        clear hne
        go_enter Try.func10, Try.ntmps10
        go_wp2_with (first | (go_at_call 8; refine (HH.out _).mono ?_; rintro e w' ⟨rfl, hb⟩; have HB2 := Lib.hid hb; clear hb) | fail)
        go_ret
        exact ⟨by rw [HR.out]; simp [empR, ltb_irrefl, sameb_self], below_step HB.out HB2.out⟩
      · have h1 : Op.bytesLess t.toList f.toList = true := q
        have h2 : Op.bytesLess f.toList t.toList = false := ltb_asymm q
        have h3 := hne (Ne.symm (ltb_ne q))
        clear hne
        go_enter Try.func10, Try.ntmps10
        go_wp2_with fail
        go_ret
        exact ⟨by rw [HR.out]; simp [empR, q], HB.out⟩
theorem store_rr {N : Nat} {w W : World} {g : Nat} {old : Array Value} (r : Rg) (h : W.heap[g]? = some (.cells old 23 (0, 0))) (ho : old.size = 6) (hg : N ≤ g) (hb : Below N w W) :
    ∃ V, (Instr.storeAt 23 (.pointer (some ⟨g, 0, none⟩)) (.agg #[.string r.f, .string r.t, .bool r.hf, .bool r.ht, .bool r.pf, .bool r.pt])).run Try.prog W = .ok () V ∧ RgAt V g r ∧ Below N w V ∧ (∀ k, k ≠ g → V.heap[k]? = W.heap[k]?) ∧ V.heap.size = W.heap.size := by
  obtain ⟨V, h1, h2, h3⟩ := store_row #[.string r.f, .string r.t, .bool r.hf, .bool r.ht, .bool r.pf, .bool r.pt] h (by kernel_rfl) ho (by simp [Value.oneCell']) hg hb
  exact ⟨V, h1, ⟨cell_of h2 rfl, cell_of h2 rfl, cell_of h2 rfl, cell_of h2 rfl, cell_of h2 rfl, cell_of h2 rfl⟩, h3⟩
set_option maxRecDepth 100000 in
theorem rpfx_ (s : ByteArray) (w : World) (hs : s.size ≤ 140737488351232) : Calls Try.prog 16 #[.string s] w fun e w' => e = .returned (rgV (pfxR s)) ∧ Below w.heap.size w w' := by
  have HN : Hid (∀ W, Calls Try.prog 33 #[.string s] W fun e w' => e = .returned (nxtV s.data.toList) ∧ Below W.heap.size W w') := fun W => rnext_ s W hs
  obtain ⟨T, b, e1, e2⟩ : ∃ (T : ByteArray) (b : Bool), nxtV s.data.toList = .tuple #[.string T, .bool b] ∧ pfxR s = ⟨s, T, true, b, false, b⟩ := by
    unfold nxtV pfxR
    cases nxt s.data.toList with
    | none => exact ⟨_, _, rfl, rfl⟩
    | some t => exact ⟨_, _, rfl, rfl⟩
  rw [e1] at HN
  rw [e2]
  have HW := Lib.hid (new_blk w (.cells #[.string ⟨#[]⟩, .string ⟨#[]⟩, .bool false, .bool false, .bool false, .bool false] 23))
  have HB0 := Lib.hid (below_alloc w (.cells #[.string ⟨#[]⟩, .string ⟨#[]⟩, .bool false, .bool false, .bool false, .bool false] 23))
  clear e1 e2
  unfold rgV
  dsimp only
  go_enter Try.func16, Try.ntmps16
  go_upto_region 1 with fail
  generalize (w.alloc (.cells #[.string ⟨#[]⟩, .string ⟨#[]⟩, .bool false, .bool false, .bool false, .bool false] 23)) = W0 at *
  go_wp2_with (first
    | (go_at_call 33; refine (HN.out _).mono ?_; rintro e w' ⟨rfl, hb⟩
       obtain ⟨V, hst, hRg, hB, _⟩ := store_rr ⟨s, T, true, b, false, b⟩ (blkKeep hb HW.out) rfl (Nat.le_refl _) (below_step HB0.out hb)
       obtain ⟨g0, g1, g2, g3, g4, g5⟩ := hRg
       have HB := Lib.hid hB
       clear hB hb)
    | (refine wpList_store_at rfl _ _ _ rfl _ _ rfl rfl hst ?_; clear hst) | fail)
  refine bodyPost_ret (v := .agg #[.string s, .string T, .bool true, .bool b, .bool false, .bool b]) ?_ rfl ⟨rfl, HB.out⟩
  rw [results_cell rfl]
  go_simp
end Go.Proofs.Yteeojhmdefhlmaa

namespace Go.Proofs.Yteeojhmdefhlmaa
open Go.RowKit Go.Sort

/-- A pair appended to a row of one's own. -/
theorem app_pair {w : World} {N : Nat} {v : Value} {l : List It} {x : It} {B : Nat} (hown : RowR w N v l) (hb : w.heap[B]? = some (.cells #[.string x.1, .string x.2] 47 (0, 0))) (hl : l.length ≤ 100000) (hN : N ≤ w.heap.size) :
    ∃ v' w', (Builtin.append_ #[39, 39] 39 #[v, .slice (some ⟨B, 0, none⟩) 1 1]).run Try.prog w = .ok v' w' ∧ RowR w' N v' (l ++ [x]) ∧ w.grownBy w' v.ownBlock := by
  obtain ⟨i0, hi, hz0, hz1, hz2⟩ := info_parts infoPr
  have news : ∀ j u, (cI [x])[j]? = some u → w.cell? ((⟨B, 0, none⟩ : Addr).add j) = some u := fun j u hj => by
    rw [Addr.add_lit]
    match j, hj with
    | 0, hj => exact (cell_of hb rfl).trans hj
    | 1, hj => exact (cell_of hb rfl).trans hj
    | j + 2, hj => simp [cI] at hj
  obtain ⟨v', w', hr, h2, h3, _⟩ := run_append_own_at (P := Try.prog) w N 39 39 47 i0 (.agg #[.string ⟨#[]⟩, .string ⟨#[]⟩]) 2 32 Try.underlying39 hi hz0 hz1 hz2 rfl (by decide) v l.length (cI l) hown ⟨B, 0, none⟩ 1 1 (cI [x]) (by rfl) news (cI_one [x]) (by unfold maxLen; omega) (by omega) hN
  refine ⟨v', w', hr, ?_, h3⟩
  unfold RowR
  rw [cI_append, List.length_append]
  exact h2
set_option maxRecDepth 100000 in
set_option maxHeartbeats 2000000 in
theorem rall_ {w : World} {v : Value} {l : List It} (hr : RowR w 0 v l) (hl : l.length ≤ 1000) (r : Rg) :
    Calls Try.prog 20 #[v, rgV r] w fun e w' => ∃ a c, e = .returned (.slice a (selR r l).length c) ∧ Hid (RowR w' w.heap.size (.slice a (selR r l).length c) (selR r l) ∧ Below w.heap.size w w') := by
  obtain ⟨a, c, rfl, hc63, hat⟩ := hr.items
  obtain ⟨W0, hW0⟩ : ∃ W0, W0 = w.alloc (.cells #[.string r.f, .string r.t, .bool r.hf, .bool r.ht, .bool r.pf, .bool r.pt] 23) := ⟨_, rfl⟩
  have HBW : Hid (Below w.heap.size w W0) := by show Below _ _ _; rw [hW0]; exact below_alloc w _
  have HR0 : Hid (∀ V, Below W0.heap.size W0 V → RgAt V w.heap.size r) := fun V hV => (by rw [hW0]; exact rgAt_new w r _ : RgAt W0 w.heap.size r).on hV (by rw [hW0]; simp [go_sem])
  have HIt : Hid (∀ i, i < l.length → ∃ (x : It) (g : Nat), l[i]? = some x ∧ a = some ⟨g, 0, none⟩ ∧ ∀ V, Below W0.heap.size W0 V → V.cell? ⟨g, i * 2, none⟩ = some (.string x.1) ∧ V.cell? ⟨g, i * 2 + 1, none⟩ = some (.string x.2)) := fun i hi => by
    obtain ⟨x, hx⟩ : ∃ x, l[i]? = some x := ⟨_, List.getElem?_eq_getElem hi⟩
    obtain ⟨g, e1, h2, h3, h4⟩ := hat i x hx
    refine ⟨x, g, hx, e1, fun V hV => ?_⟩
    have hV2 : Below w.heap.size w V := HBW.out.trans (hV.mono HBW.out.size)
    exact ⟨(hV2.cell (p := ⟨g, i * 2, none⟩) h2).trans h3, (hV2.cell (p := ⟨g, i * 2 + 1, none⟩) h2).trans h4⟩
  have HB0 : Hid (RowR W0 W0.heap.size (.slice none 0 0) (selR r (l.take 0)) ∧ Below W0.heap.size W0 W0) := ⟨World.ownsRow_nil _ _ _ _, Below.refl _ _⟩
  have HEnd : Hid (selR r (l.take l.length) = selR r l) := by show _ = _; rw [List.take_length]
  have HLen : Hid (∀ i, (selR r (l.take i)).length ≤ 1000) := fun i => Nat.le_trans (List.length_filter_le _ _) (by rw [List.length_take]; omega)
  clear hr hat
  generalize hL : l.length = L at *
  clear hL
  unfold rgV
  go_enter Try.func20, Try.ntmps20
  go_upto_region 1 with fail
  rw [← hW0]
  clear hW0
  generalize hn : w.heap.size = n at *
  have HNn := Lib.hid hn
  clear hn
  go_wp2_with fail
  go_loopw [5, 6] (fun v5 jv wr => ∃ i : Nat, i ≤ L ∧ jv = .int .i64 i ∧ Hid (RowR wr W0.heap.size v5 (selR r (l.take i)) ∧ Below W0.heap.size W0 wr)) (fun _ jv _ => (L - intOf jv).toNat)
  case atStart => exact ⟨0, Nat.zero_le _, rfl, HB0⟩
  case round =>
    clear HB0
    obtain ⟨i, hi, rfl, HI⟩ := hrel
    by_cases hlt : i < L
    · obtain ⟨x, g, hx, rfl, hcell⟩ := HIt.out i hlt
      have HX := Lib.hid hx
      have HC := Lib.hid hcell
      have HB1 : Hid (Below W0.heap.size W0 wr.drew) := below_step HI.out.2 (below_drew wr)
      have FR := HR0
      unfold RgAt at FR
      have FC : Hid (∀ V, Below W0.heap.size W0 V → V.cell? ⟨g, i * 2, none⟩ = some (.string x.1)) := fun V hV => (HC.out V hV).1
      obtain ⟨b, hb⟩ : ∃ b, b = hasR r x.1 := ⟨_, rfl⟩
      have HH : Hid (Calls Try.prog 8 #[rgV r, .string x.1] wr.drew fun e w' => e = .returned (.bool b) ∧ Below wr.drew.heap.size wr.drew w') := by rw [hb]; exact rhas_ r x.1 _
      unfold rgV at HH
      have HSn : Hid (selR r (l.take (i + 1)) = bif b then selR r (l.take i) ++ [x] else selR r (l.take i)) := by
        show _ = _
        rw [sel_snoc hx, hb]
        cases hasR r x.1 <;> rfl
      clear hx hcell hb
      have hlt2 : (i : Int) < (L : Int) := by omega
      go_wp2_with fail
      refine wp_region_noPanic ?_
      refine region_ph (A := fun _ => True) (e1 := 6) (B := (fun V => Below W0.heap.size W0 V)) (e2 := 6) (C := (fun _ => True)) (by kernel_rfl) (⟨trivial, fun _ => HB1.out, fun _ => trivial⟩) (fun hSt => ?_)
      refine take_ph 0 (.agg #[.string r.f, .string r.t, .bool r.hf, .bool r.ht, .bool r.pf, .bool r.pt]) [6] rfl (by kernel_rfl) (fun _ _ _ h => h) (Or.inl ⟨by rfl, ?_⟩) hSt (fun hSn => ?_)
      · rintro V ⟨_, hB, hC⟩; have hh := hB (by decide); have e0 := FR.out V hh; clear hB hC; go_simp
      clear hSt; rename Ph _ _ _ _ _ _ _ => hSt
      simp only [Act.put, List.setIfInBounds_toArray, List.set_cons_zero, List.set_cons_succ]
      refine take_ph 1 (.slice (some ⟨g, 0, none⟩) L c) [] rfl (by kernel_rfl) (fun _ _ _ h => h) (Or.inl ⟨by rfl, ?_⟩) hSt (fun hSn => ?_)
      · intro V _; go_simp
      clear hSt; rename Ph _ _ _ _ _ _ _ => hSt
      simp only [Act.put, List.setIfInBounds_toArray, List.set_cons_zero, List.set_cons_succ]
      refine take_ph 2 (.int .i64 i) [] rfl (by kernel_rfl) (fun _ _ _ h => h) (Or.inl ⟨by rfl, ?_⟩) hSt (fun hSn => ?_)
      · intro V _; go_simp
      clear hSt; rename Ph _ _ _ _ _ _ _ => hSt
      simp only [Act.put, List.setIfInBounds_toArray, List.set_cons_zero, List.set_cons_succ]
      refine take_ph 3 (.pointer (some ⟨g, i * 2, none⟩)) [] rfl (by kernel_rfl) (fun _ _ _ h => h) (Or.inl ⟨by rfl, ?_⟩) hSt (fun hSn => ?_)
      · intro V _; go_simp
      clear hSt; rename Ph _ _ _ _ _ _ _ => hSt
      simp only [Act.put, List.setIfInBounds_toArray, List.set_cons_zero, List.set_cons_succ]
      refine take_ph 4 (.pointer (some ⟨g, i * 2, none⟩)) [] rfl (by kernel_rfl) (fun _ _ _ h => h) (Or.inl ⟨by rfl, ?_⟩) hSt (fun hSn => ?_)
      · intro V _; go_simp
      clear hSt; rename Ph _ _ _ _ _ _ _ => hSt
      simp only [Act.put, List.setIfInBounds_toArray, List.set_cons_zero, List.set_cons_succ]
      refine take_ph 5 (.string x.1) [6] rfl (by kernel_rfl) (fun _ _ _ h => h) (Or.inl ⟨by rfl, ?_⟩) hSt (fun hSn => ?_)
      · rintro V ⟨_, hB, hC⟩; have hh := hB (by decide); have e0 := FC.out V hh; clear hB hC; go_simp
      clear hSt; rename Ph _ _ _ _ _ _ _ => hSt
      simp only [Act.put, List.setIfInBounds_toArray, List.set_cons_zero, List.set_cons_succ]
      refine ready_call_ph 6 rfl (by kernel_rfl) (fun KK hK => ?_)
      go_simp
      go_wp2_with (first | (go_at_call 8; refine HH.out.mono ?_; rintro e W2 ⟨rfl, hb2⟩))
      refine hK.out _ _ ?_ (fun hSn => ?_)
      · exact ⟨trivial, fun h => absurd (show true = false from h) (by decide), fun _ => trivial⟩
      clear hK KK hSt; rename Ph _ _ _ _ _ _ _ => hSt
      refine done_ph (by kernel_rfl) ?_ _
      clear hSt
      refine NoPanic.normal ?_
      have HI2 : Hid (RowR W2 W0.heap.size u5 (selR r (l.take i)) ∧ Below W0.heap.size W0 W2) := ⟨row_on (row_on HI.out.1 (below_drew wr)) hb2, below_step HB1.out hb2⟩
      clear hb2 HH FR FC HB1 HI
      cases b with
      | false =>
        go_wp2_with fail
        go_roundw
        case rel => exact ⟨i + 1, by omega, by go_num, by rw [HSn.out]; exact HI2.out⟩
        case measure => simp [intOf]; omega
      | true =>
        obtain ⟨c1, c2⟩ := HC.out W2 HI2.out.2
        obtain ⟨U, hU⟩ : ∃ U, U = W2.alloc (.cells #[.string x.1, .string x.2] 47) := ⟨_, rfl⟩
        have hbU : Below W2.heap.size W2 U := by rw [hU]; exact below_alloc _ _
        obtain ⟨v3, W3, hr3, ho3, hg3⟩ := app_pair (x := x) (B := W2.heap.size) (row_on HI2.out.1 hbU) (by rw [hU]; exact new_blk W2 _) (by have := HLen.out i; omega) (Nat.le_trans HI2.out.2.size hbU.size)
        have HI3 : Hid (RowR W3 W0.heap.size v3 (selR r (l.take (i + 1))) ∧ Below W0.heap.size W0 W3) := by
          rw [HSn.out]
          exact ⟨ho3, (below_step HI2.out.2 hbU).trans (below_grown (row_on HI2.out.1 hbU) (Nat.le_trans HI2.out.2.size hbU.size) hg3)⟩
        rw [hU] at hr3
        clear hbU ho3 hg3 hU
        go_wp2_with (first | (refine wpList_exec rfl (exec_append rfl rfl rfl hr3) ?_; clear hr3) | fail)
        go_roundw
        case rel => exact ⟨i + 1, by omega, by go_num, HI3⟩
        case measure => simp [intOf]; omega
    · obtain rfl : i = L := by omega
      have hrow := HI.out.1
      rw [HEnd.out] at hrow
      obtain ⟨a5, c5, e5, _⟩ := row_shape hrow
      have HI2 : Hid (RowR wr W0.heap.size (.slice a5 (selR r l).length c5) (selR r l) ∧ Below W0.heap.size W0 wr) := ⟨by rw [← e5]; exact hrow, HI.out.2⟩
      subst e5
      clear hrow HI
      have h3 : ¬ (i : Int) < (i : Int) := by omega
      go_wp2_with fail
      go_ret
      exact ⟨a5, c5, rfl, row_base HI2.out.1 (by rw [HNn.out]; have := HBW.out.size; rw [HNn.out] at this; exact this), by rw [HNn.out]; exact HBW.out.trans (HI2.out.2.mono (by have := HBW.out.size; rw [HNn.out] at this; exact this))⟩
end Go.Proofs.Yteeojhmdefhlmaa
