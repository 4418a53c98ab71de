/- The calls of a lattice that collect places: Below, Above; Labels copied: slices.Clone, and the law's 'twin'; Plain facts on a label's text: its letters, and what reading it gives. No program is in it; The walks of label.Valid, letter, letters, bitsOf, Text; The walk of lattice.New; The walk of lattice.New where every label may be: the map that is filled. -/
import Derived.Test.YtalmanfjiblhcaaGreatLXDom
import Derived.OwnWalk
import Derived.Lib.Hide
import Derived.Lib.SliceRun
import Derived.Test.YtalmanfjiblhcaaGreatJ8
import Derived.Lib.ItoaNum
import Derived.Lib.AtoiAll
import Derived.Lib.Bytealg
import Derived.Maps.OwnOps
namespace Go.Proofs.YtalmanfjiblhcaaGreat.Lt
open Go.RowKit Go.Sort
def ints (zs : List Nat) : List Value := zs.map fun n : Nat => Value.int .i64 (n : Int)
theorem ints_snoc (zs : List Nat) (k : Nat) : ints zs ++ [.int .i64 (k : Int)] = ints (zs ++ [k]) := by simp [ints]
theorem grown_of_below {w w' : World} (h : Below w.heap.size w w') : w.grownBy w' none := ⟨h.os, h.tape, h.output, h.size, fun i hi _ => h.block i hi⟩
theorem owns_on {w w' : World} {base n size : Nat} {e : TypeId} {v : Value} {xs : List Value} (h : w.ownsRow base e size v n xs) (hb : Below w.heap.size w w') : w'.ownsRow base e size v n xs :=
 h.kept (grown_of_below hb) (by cases hv : v.ownBlock <;> simp)
theorem intsIn_of {w : World} {base : Nat} {v : Value} {zs : List Nat} (h : w.ownsRow base 3 1 v zs.length (ints zs)) : ∃ a c, v = .slice a zs.length c ∧ IntsIn w a zs := by
 rcases h.2 with ⟨rfl, h0⟩ | ⟨g, cap, cur, rfl, hb, hg, h1, h2, h3, h4⟩
 · refine ⟨none, 0, by rw [h0], fun i hi => by omega⟩
 · refine ⟨_, cap, rfl, fun i hi => ⟨g, 0, rfl, ?_⟩⟩
   have := h.cells (g := g) rfl i (.int .i64 (zs.getD i 0 : Nat)) (by
    simp only [ints, List.getElem?_map, List.getElem?_eq_getElem hi, Option.map_some, List.getD_eq_getElem?_getD, Option.getD_some])
   rw [Addr.add_lit] at this
   exact this
theorem one_cell (w : World) (x : Value) (t : TypeId) : ∀ j u, [x][j]? = some u → (w.alloc (.cells #[x] t)).cell? ((⟨w.heap.size, 0, none⟩ : Addr).add j) = some u := by
 intro j u hj
 match j, hj with
 | 0, hj => simp at hj; subst hj; simp [Addr.add]
theorem one_one (k : Int) : ∀ u ∈ [Value.int .i64 k], u.oneCell' = true := by
 intro u hu; simp at hu; subst hu; rfl
theorem info3 : (Tryz.prog.info? 3).map (fun i => (i.zero, i.size, i.bytes)) = some (some (.int .i64 0), 1, 8) := by kernel_rfl
set_option maxHeartbeats 1000000 in
theorem below_ (v : Value) (i : Int) (ls : List Lab) (w : World) (h : LatIn w v ls) (hw : allW ls) (hn : ls.length ≤ 16) :
 Calls Tryz.prog 42 #[v, .int .i64 i] w fun e w' => ∃ a c, e = .returned (.slice a (belowL ls i).length c) ∧ IntsIn w' a (belowL ls i) ∧ Below w.heap.size w w' ∧ ∀ b o, a = some ⟨b, o, none⟩ → w.heap.size ≤ b := by
 obtain ⟨p, hp⟩ : ∃ p : Nat → Bool, p = fun j : Nat => domAt ls i j := ⟨_, rfl⟩
 have HB : Hid (belowL ls i = upTo p ls.length) := by unfold Hid; rw [hp]; rfl
 rw [HB.out]
 have HD : Hid (∀ (W : World) (k : Nat), LatIn W v ls → Calls Tryz.prog 70 #[v, .int .i64 i, .int .i64 k] W fun e w' => e = .returned (.bool (p k)) ∧ Below W.heap.size W w') := fun W k hL => by rw [hp]; exact dom_ v i k ls W hL hw
 have HL : Hid (LatIn w v ls) := h
 clear hp HB h hw
 obtain ⟨n, hnn⟩ : ∃ n, ls.length = n := ⟨_, rfl⟩
 have HN : Hid (∀ W, LatIn W v ls → Calls Tryz.prog 40 #[v] W fun e w' => e = .returned (.int .i64 n) ∧ w' = W) := fun W hL => hnn ▸ len_ v ls W hL
 rw [hnn] at hn ⊢
 clear hnn
 obtain ⟨i0, hi, hz0, hz1, hz2⟩ := info_parts info3
 go_enter Tryz.func42, Tryz.ntmps42
 go_wp2_with fail
 refine (HN.out _ HL.out).mono ?_
 rintro e w1 ⟨rfl, rfl⟩
 go_wp2_with fail
 go_loopw [5, 9] (fun bv iv wr => ∃ k : Nat, k ≤ n ∧ iv = .int .i64 k ∧ wr.ownsRow w1.heap.size 3 1 bv (upTo p k).length (ints (upTo p k)) ∧ Below w1.heap.size w1 wr) (fun _ iv _ => n - (intOf iv).toNat)
 case atStart => exact ⟨0, Nat.zero_le _, rfl, World.ownsRow_nil _ _ _ _, Below.refl _ _⟩
 case round =>
  obtain ⟨k, hk, rfl, hown, hb⟩ := hrel
  have hul := upTo_len p k
  have HO := Lib.hid hown
  clear hown
  by_cases hlt : k < n
  · go_wp2_with fail
    refine (HD.out wr k (HL.out.on hb)).mono ?_
    rintro e w2 ⟨rfl, hb2⟩
    have hb3 : Below w1.heap.size w1 w2 := hb.trans (hb2.mono hb.size)
    have HO2 := Lib.hid (owns_on HO.out hb2)
    cases hp : p k
    · go_wp2_with fail
      go_roundw
      case rel => exact ⟨k + 1, by omega, by go_num, by rw [upTo_no hp]; exact HO2.out, hb3⟩
      case measure => simp [intOf]; omega
    · have hsz := hb3.size
      go_wp2_with (first
       | (at_builtin; refine wpList_append_own _ rfl _ _ 37 rfl w1.heap.size 3 i0 (.int .i64 0) 1 8 Tryz.underlying37 hi hz0 hz1 hz2 rfl (by decide) _ _ _ rfl (HO2.out.alloc _) ⟨w2.heap.size, 0, none⟩ 1 1 [.int .i64 k] rfl rfl (one_cell _ _ _) (one_one _) (by unfold maxLen; omega) (by omega) (by simp; omega) ?_)
       | go_in)
      intro v' w3 hown' hgrow _
      have hb4 : Below w1.heap.size w1 w3 := (hb3.alloc hb3.size _).grown hgrow (by simp; omega) (fun g hg => (HO2.out.lt g hg).1)
      rw [ints_snoc, ← upTo_yes hp] at hown'
      have e1 : (upTo p (k + 1)).length = (upTo p k).length + 1 := by rw [upTo_yes hp]; simp
      rw [← e1] at hown'
      have HO3 := Lib.hid hown'
      clear hown' hgrow e1
      go_wp2
      go_roundw
      case rel => exact ⟨k + 1, by omega, by go_num, HO3.out, hb4⟩
      case measure => simp [intOf]; omega
  · obtain rfl : k = n := by omega
    go_wp2_with fail
    go_ret
    obtain ⟨a, c, rfl, hin⟩ := intsIn_of HO.out
    exact ⟨a, c, rfl, hin, hb, fun b o e => (HO.out.lt b (by rw [e]; rfl)).1⟩
end Go.Proofs.YtalmanfjiblhcaaGreat.Lt
namespace Go.Proofs.YtalmanfjiblhcaaGreat.Lt
open Go.RowKit Go.Sort
def labCells : List Lab → List Value
 | [] => []
 | a :: r => .int .i64 a.1 :: .int .u32 a.2 :: labCells r
theorem labCells_len : ∀ ls, (labCells ls).length = ls.length * 2
 | [] => rfl
 | a :: r => by simp only [labCells, List.length_cons, labCells_len r]; omega
theorem labCells_fst : ∀ (ls : List Lab) (i : Nat), i < ls.length → (labCells ls)[i * 2]? = some (.int .i64 (lab ls i).1)
 | [], i, h => by simp at h
 | a :: r, 0, _ => rfl
 | a :: r, i + 1, h => by
   rw [show (i + 1) * 2 = i * 2 + 2 by omega]
   simp only [labCells, List.getElem?_cons_succ]
   rw [labCells_fst r i (by simpa using h)]
   rfl
theorem labCells_snd : ∀ (ls : List Lab) (i : Nat), i < ls.length → (labCells ls)[i * 2 + 1]? = some (.int .u32 (lab ls i).2)
 | [], i, h => by simp at h
 | a :: r, 0, _ => rfl
 | a :: r, i + 1, h => by
   rw [show (i + 1) * 2 + 1 = i * 2 + 1 + 2 by omega]
   simp only [labCells, List.getElem?_cons_succ]
   rw [labCells_snd r i (by simpa using h)]
   rfl
theorem labCells_one : ∀ (ls : List Lab), ∀ u ∈ labCells ls, u.oneCell' = true
 | [], u, h => by simp [labCells] at h
 | a :: r, u, h => by
   simp only [labCells, List.mem_cons] at h
   rcases h with rfl | rfl | h
   · rfl
   · rfl
   · exact labCells_one r u h
theorem labNews {w : World} {b o : Nat} {ls : List Lab} (h : LabsIn w (some ⟨b, o, none⟩) ls) : ∀ j u, (labCells ls)[j]? = some u → w.cell? ((⟨b, o, none⟩ : Addr).add j) = some u := by
 intro j u hj
 obtain ⟨hlt, _⟩ := List.getElem?_eq_some_iff.1 hj
 rw [labCells_len] at hlt
 have hi : j / 2 < ls.length := by omega
 obtain ⟨b', o', e', h1, h2⟩ := h (j / 2) hi
 simp only [Option.some.injEq, Addr.mk.injEq] at e'
 obtain ⟨rfl, rfl, _⟩ := e'
 rw [Addr.add_lit]
 by_cases hm : j % 2 = 0
 · have e : j = j / 2 * 2 := by omega
   rw [e, labCells_fst ls _ hi] at hj
   rw [e]
   exact h1.trans hj
 · have e : j = j / 2 * 2 + 1 := by omega
   rw [e, labCells_snd ls _ hi] at hj
   rw [e, ← Nat.add_assoc]
   exact h2.trans hj
theorem labsIn_of {w : World} {base : Nat} {v : Value} {ls : List Lab} (h : w.ownsRow base 70 2 v ls.length (labCells ls)) : ∃ a c, v = .slice a ls.length c ∧ LabsIn w a ls := by
 rcases h.2 with ⟨rfl, h0⟩ | ⟨g, cap, cur, rfl, hb, hg, h1, h2, h3, h4⟩
 · refine ⟨none, 0, by rw [h0], fun i hi => by omega⟩
 · refine ⟨_, cap, rfl, fun i hi => ⟨g, 0, rfl, ?_, ?_⟩⟩
   · have := h.cells (g := g) rfl _ _ (labCells_fst ls i hi)
     rw [Addr.add_lit] at this
     exact this
   · have := h.cells (g := g) rfl _ _ (labCells_snd ls i hi)
     rw [Addr.add_lit] at this
     rw [Nat.add_assoc]
     exact this
theorem infoL : (Tryz.prog.info? 70).map (fun i => (i.zero, i.size, i.bytes)) = some (some (.agg #[.int .i64 0, .int .u32 0]), 2, 16) := by kernel_rfl
set_option maxHeartbeats 1000000 in
set_option maxRecDepth 100000 in
theorem clone_ (a : Option Addr) (c : Nat) (ls : List Lab) (w : World) (h : LabsIn w a ls) (h0 : 0 < ls.length) (hn : ls.length ≤ 16) :
 Calls Tryz.prog 36 #[.slice a ls.length c] w fun e w' => ∃ a' c', e = .returned (.slice a' ls.length c') ∧ LabsIn w' a' ls ∧ Below w.heap.size w w' := by
 obtain ⟨b, o, rfl, _⟩ := h 0 h0
 have HL := Lib.hid h
 have hlen := labCells_len ls
 clear h
 obtain ⟨i0, hi, hz0, hz1, hz2⟩ := info_parts infoL
 have q22 : ∀ (w : World) (a : Option Addr) (n c n' c' : Nat), (binOp .eql 22 (.slice a n c) (.slice none n' c')).run Tryz.prog w = .ok (.bool a.isNone) w := fun w a n c n' c' => Lib.run_eql_slice_nil w _ _ a n c n' c' Tryz.underlying22
 go_enter Tryz.func36, Tryz.ntmps36
 go_wp2_with (first
  | (at_builtin; refine wpList_append_own _ rfl _ _ 22 rfl w.heap.size 70 i0 (.agg #[.int .i64 0, .int .u32 0]) 2 16 Tryz.underlying22 hi hz0 hz1 hz2 rfl (by decide) _ _ _ rfl (World.ownsRow_made w #[] 0 (Nat.le_refl _) (Nat.zero_le _) (by simp)) ⟨b, o, none⟩ ls.length c (labCells ls) rfl hlen (labNews (HL.out.on ((Below.refl _ _).alloc (Nat.le_refl _) _))) (labCells_one ls) (by unfold maxLen; omega) (by omega) (by simp) ?_)
  | go_in)
 intro v' w1 hown hgrow _
 obtain ⟨a', c', rfl, hin⟩ := labsIn_of hown
 have hb : Below w.heap.size w w1 := ((Below.refl _ _).alloc (Nat.le_refl _) _).grown hgrow (by simp) (fun g hg => by simp [Value.ownBlock] at hg; omega)
 have HI := Lib.hid hin
 clear hown hgrow hin
 go_wp2
 go_ret
 exact ⟨a', c', rfl, HI.out, hb⟩
end Go.Proofs.YtalmanfjiblhcaaGreat.Lt
namespace Go.Proofs.YtalmanfjiblhcaaGreat.Lt
def okL (r : Int) (c : Nat) : Bool := decide (0 ≤ r) && decide (r ≤ 15) && decide (c < 67108864)
theorem okL_iff {r : Int} {c : Nat} : okL r c = true ↔ 0 ≤ r ∧ r ≤ 15 ∧ c < 67108864 := by
 unfold okL; simp [and_assoc]
end Go.Proofs.YtalmanfjiblhcaaGreat.Lt
namespace Go.Proofs.YtalmanfjiblhcaaGreat.Lt
open Go.RowKit Go.Sort
set_option maxHeartbeats 400000 in
theorem valid12_yes (r : Int) (c : Nat) (w : World) (h : okL r c = true) :
 Calls Tryz.prog 35 #[.agg #[.int .i64 r, .int .u32 c]] w fun e w' => e = .returned .nilIface ∧ Below w.heap.size w w' := by
 obtain ⟨h0, h1, h2⟩ := okL_iff.1 h
 clear h
 have hc : c < 4294967296 := by omega
 have b0 : decide (r < 0) = false := by simp; omega
 have b1 : decide (15 < r) = false := by simp; omega
 have b2 : ((c : Int) / 67108864 != 0) = false := by simp; omega
 go_enter Tryz.func35, Tryz.ntmps35
 go_wp2
 go_ret
 exact ⟨rfl, (Below.refl _ _).alloc (Nat.le_refl _) _⟩
theorem okL_not {r : Int} {c : Nat} (h : okL r c = false) : r < 0 ∨ (0 ≤ r ∧ 15 < r) ∨ (0 ≤ r ∧ r ≤ 15 ∧ 67108864 ≤ c) := by
 by_cases h0 : 0 ≤ r
 · by_cases h1 : r ≤ 15
   · by_cases h2 : c < 67108864
     · rw [okL_iff.2 ⟨h0, h1, h2⟩] at h; cases h
     · omega
   · omega
 · omega
set_option maxHeartbeats 400000 in
theorem valid12_no (r : Int) (c : Nat) (w : World) (hc : c < 4294967296) (h : okL r c = false) :
 Calls Tryz.prog 35 #[.agg #[.int .i64 r, .int .u32 c]] w fun e w' => e = .returned (.iface 77 (.int .i64 20)) ∧ Below w.heap.size w w' := by
 rcases okL_not h with h0 | ⟨h0, h1⟩ | ⟨h0, h1, h2⟩
 · clear h
   go_enter Tryz.func35, Tryz.ntmps35
   go_wp2
   go_ret
   exact ⟨rfl, (Below.refl _ _).alloc (Nat.le_refl _) _⟩
 · clear h
   have b0 : decide (r < 0) = false := by simp; omega
   go_enter Tryz.func35, Tryz.ntmps35
   go_wp2
   go_ret
   exact ⟨rfl, (Below.refl _ _).alloc (Nat.le_refl _) _⟩
 · clear h
   have b0 : decide (r < 0) = false := by simp; omega
   have b1 : decide (15 < r) = false := by simp; omega
   have b2 : ((c : Int) / 67108864 != 0) = true := by simp; omega
   go_enter Tryz.func35, Tryz.ntmps35
   go_wp2
   go_ret
   exact ⟨rfl, (Below.refl _ _).alloc (Nat.le_refl _) _⟩
end Go.Proofs.YtalmanfjiblhcaaGreat.Lt
namespace Go.Proofs.YtalmanfjiblhcaaGreat.Lt
open Go.RowKit Go.Sort
def okLab (a : Lab) : Bool := okL a.1 a.2
theorem okLab_ok {a : Lab} (h : okLab a = true) : okW a := by
 have := okL_iff.1 h
 exact ⟨by omega, by omega, by omega⟩
set_option maxHeartbeats 400000 in
theorem new_arg (a : Option Addr) (c : Nat) (w : World) :
 Calls Tryz.prog 16 #[.slice a 0 c] w fun e w' => e = .returned (.tuple #[.pointer none, .iface 77 (.int .i64 1)]) ∧ Below w.heap.size w w' := by
 go_enter Tryz.func16, Tryz.ntmps16
 go_wp2
 go_ret2
 exact ⟨rfl, Below.refl _ _⟩
set_option maxHeartbeats 400000 in
theorem new_long (a : Option Addr) (n c : Nat) (w : World) (h : 16 < n) :
 Calls Tryz.prog 16 #[.slice a n c] w fun e w' => e = .returned (.tuple #[.pointer none, .iface 77 (.int .i64 2)]) ∧ Below w.heap.size w w' := by
 have h0 : ¬ n = 0 := by omega
 have h1 : (16 : Int) < (n : Int) := by omega
 go_enter Tryz.func16, Tryz.ntmps16
 go_wp2
 go_ret2
 exact ⟨rfl, Below.refl _ _⟩
set_option maxHeartbeats 1000000 in
theorem new_label (a : Option Addr) (c : Nat) (ls : List Lab) (w : World) (h : LabsIn w a ls) (h0 : 0 < ls.length) (hn : ls.length ≤ 16) (hw : allW ls) (hb : ls.all okLab = false) :
 Calls Tryz.prog 16 #[.slice a ls.length c] w fun e w' => e = .returned (.tuple #[.pointer none, .iface 77 (.int .i64 20)]) ∧ Below w.heap.size w w' := by
 have HB : Hid (¬ ∀ j, j < ls.length → okLab (lab ls j) = true) := fun hall => by
  have : ls.all okLab = true := List.all_eq_true.2 fun x hx => by
   obtain ⟨j, hj, rfl⟩ := List.mem_iff_getElem.1 hx
   have := hall j hj
   unfold lab at this
   rw [List.getD_eq_getElem?_getD, List.getElem?_eq_getElem hj] at this
   exact this
  rw [this] at hb; cases hb
 have HL := Lib.hid h
 have HW : Hid (∀ i, (lab ls i).2 < 4294967296) := lab_lt hw
 clear h hb hw
 obtain ⟨n, hnn⟩ : ∃ n, ls.length = n := ⟨_, rfl⟩
 rw [hnn] at h0 hn HB ⊢
 have HLn : Hid (∀ W, Below w.heap.size w W → ∀ i, i < n → ∃ b o, a = some ⟨b, o, none⟩ ∧ W.cell? ⟨b, o + i * 2, none⟩ = some (.int .i64 (lab ls i).1) ∧ W.cell? ⟨b, o + i * 2 + 1, none⟩ = some (.int .u32 (lab ls i).2)) := fun W hW i hi => HL.out.on hW i (hnn ▸ hi)
 clear hnn HL
 have h1 : ¬ n = 0 := by omega
 have h2 : ¬ (16 : Int) < (n : Int) := by omega
 go_enter Tryz.func16, Tryz.ntmps16
 go_wp2_with fail
 go_loopw [22] (fun iv wr => ∃ k : Nat, k ≤ n ∧ iv = .int .i64 k ∧ Below w.heap.size w wr ∧ ∀ j, j < k → okLab (lab ls j) = true) (fun iv _ => n - (intOf iv).toNat)
 case atStart => exact ⟨0, Nat.zero_le _, rfl, Below.refl _ _, fun j hj => by omega⟩
 case round =>
  obtain ⟨k, hk, rfl, hbw, hall⟩ := hrel
  have HA := Lib.hid hall
  clear hall
  by_cases hlt : k < n
  · obtain ⟨b, o, rfl, c1, c2⟩ := HLn.out wr hbw k hlt
    have hcc := HW.out k
    have HV : Hid (okLab (lab ls k) = okL (lab ls k).1 (lab ls k).2) := rfl
    generalize (lab ls k).1 = r at *
    generalize (lab ls k).2 = cc at *
    cases hok : okL r cc
    · go_wp2_with fail
      refine (valid12_no r cc _ hcc hok).mono ?_
      rintro e w2 ⟨rfl, hb2⟩
      have hb3 : Below w.heap.size w w2 := (hbw.alloc hbw.size _).trans (hb2.mono (by have := hbw.size; simp; omega))
      go_wp2_with fail
      go_ret2
      exact ⟨rfl, hb3⟩
    · go_wp2_with fail
      refine (valid12_yes r cc _ hok).mono ?_
      rintro e w2 ⟨rfl, hb2⟩
      have hb3 : Below w.heap.size w w2 := (hbw.alloc hbw.size _).trans (hb2.mono (by have := hbw.size; simp; omega))
      have HK := Lib.hid hok
      clear hok
      go_wp2_with fail
      go_roundw
      case rel =>
       refine ⟨k + 1, by omega, by go_num, hb3, fun j hj => ?_⟩
       by_cases e : j = k
       · subst e; rw [HV.out]; exact HK.out
       · exact HA.out j (by omega)
      case measure => simp [intOf]; omega
  · exact absurd (fun j hj => HA.out j (by omega)) HB.out
end Go.Proofs.YtalmanfjiblhcaaGreat.Lt
namespace Go.Proofs.YtalmanfjiblhcaaGreat.Lt
open Go.RowKit Go.Sort
theorem labV_inj {a b : Lab} (h : labV a = labV b) : a = b := by
 unfold labV at h
 simp only [Value.agg.injEq] at h
 have h1 := congrArg (fun x : Array Value => x[0]?) h
 have h2 := congrArg (fun x : Array Value => x[1]?) h
 simp at h1 h2
 exact Prod.ext h1 (by omega)
theorem zero3 (w : World) : (zeroValue 3).run Tryz.prog w = .ok (.int .i64 0) w := by kernel_rfl
theorem make47 (n : Int) (w : World) : (Instr.makeMap 118 (some (.int .i64 n))).run Tryz.prog w = .ok (.map (some w.heap.size)) (w.alloc (.map #[] 0)) := by
 simp [Instr.makeMap, run_underlying Tryz.underlying118, go_sem]
def MapFacts (D : DataW Unit) (ls : List Lab) : Prop :=
 ∀ a kl, keyOf Tryz.prog 70 (labV a) = some kl → (a ∉ ls → Maps.has D kl = false) ∧ ∀ i, i < ls.length → lab ls i = a → Maps.has D kl = true ∧ D.atKey kl (.lit (.int .i64 0)) = .lit (.int .i64 i)
theorem facts_none : MapFacts (.map []) [] := fun _ _ _ => ⟨fun _ => rfl, fun i hi => by simp at hi⟩
theorem lab_old {ls : List Lab} {a : Lab} {i : Nat} (h : i < ls.length) : lab (ls ++ [a]) i = lab ls i := by
 unfold lab; rw [List.getD_eq_getElem?_getD, List.getD_eq_getElem?_getD, List.getElem?_append_left h]
theorem lab_new {ls : List Lab} {a : Lab} : lab (ls ++ [a]) ls.length = a := by
 unfold lab; rw [List.getD_eq_getElem?_getD, List.getElem?_append_right (Nat.le_refl _)]; simp
theorem lab_mem {ls : List Lab} {i : Nat} (h : i < ls.length) : lab ls i ∈ ls := by
 unfold lab; rw [List.getD_eq_getElem?_getD, List.getElem?_eq_getElem h]; exact List.getElem_mem h
theorem facts_put {D : DataW Unit} {ls : List Lab} {a : Lab} {kl : Lit} (hF : MapFacts D ls) (hM : Go.Maps.IsMap D) (ha : a ∉ ls) (hk : keyOf Tryz.prog 70 (labV a) = some kl) :
 MapFacts (D.put kl (.lit (.int .i64 ls.length))) (ls ++ [a]) := by
 intro b klb hb
 have hne : b ≠ a → klb ≠ kl := fun h e => h (labV_inj (law.inj (e ▸ hb) hk))
 obtain ⟨f1, f2⟩ := hF b klb hb
 refine ⟨fun hbm => ?_, fun i hi hl => ?_⟩
 · simp only [List.mem_append, List.mem_singleton, not_or] at hbm
   rw [Go.Maps.has_put_other (hne hbm.2)]
   exact f1 hbm.1
 · by_cases hlt : i < ls.length
   · rw [lab_old hlt] at hl
     have hba : b ≠ a := fun e => ha (by rw [← e, ← hl]; exact lab_mem hlt)
     rw [Go.Maps.has_put_other (hne hba), Go.Maps.atKey_put_other (hne hba)]
     exact f2 i hlt hl
   · have hie : i = ls.length := by simp at hi; omega
     subst hie
     rw [lab_new] at hl
     subst hl
     obtain rfl : kl = klb := Option.some.inj (hk.symm.trans hb)
     exact ⟨Go.Maps.has_put_same hM (law.key hk) _, Go.Maps.atKey_put_same hM (law.key hk) _ _⟩
theorem take_snoc {ls : List Lab} {k : Nat} (h : k < ls.length) : ls.take (k + 1) = ls.take k ++ [lab ls k] := by
 unfold lab; rw [List.getD_eq_getElem?_getD, List.getElem?_eq_getElem h, List.take_succ_eq_append_getElem h]; rfl
theorem take_twice {ls : List Lab} {k : Nat} (h : k < ls.length) (hm : lab ls k ∈ ls.take k) : ¬ ls.Nodup := by
 intro hd
 obtain ⟨j, hj, e⟩ := List.mem_iff_getElem.1 hm
 rw [List.getElem_take] at e
 rw [List.length_take] at hj
 unfold lab at e
 rw [List.getD_eq_getElem?_getD, List.getElem?_eq_getElem h] at e
 have := nodup_inj hd (by omega) h e
 omega
set_option maxHeartbeats 2000000 in
set_option maxRecDepth 100000 in
theorem new_rest (a : Option Addr) (c : Nat) (ls : List Lab) (w : World) (h : LabsIn w a ls) (h0 : 0 < ls.length) (hn : ls.length ≤ 16) (hok : ls.all okLab = true) :
 Calls Tryz.prog 16 #[.slice a ls.length c] w fun e w' => Below w.heap.size w w' ∧ ((¬ ls.Nodup ∧ e = .returned (.tuple #[.pointer none, .iface 77 (.int .i64 9)])) ∨ (ls.Nodup ∧ ∃ q, e = .returned (.tuple #[.pointer (some ⟨q, 0, none⟩), .nilIface]) ∧ LatIn w' (.pointer (some ⟨q, 0, none⟩)) ls)) := by
 have hokj : ∀ j, j < ls.length → okLab (lab ls j) = true := fun j hj => List.all_eq_true.1 hok _ (lab_mem hj)
 have HOK := Lib.hid hokj
 have HL := Lib.hid h
 clear h hok hokj
 obtain ⟨n, hnn⟩ : ∃ n, ls.length = n := ⟨_, rfl⟩
 have HNN := Lib.hid hnn
 rw [hnn] at h0 hn HOK ⊢
 have HLn : Hid (∀ W, Below w.heap.size w W → ∀ i, i < n → ∃ b o, a = some ⟨b, o, none⟩ ∧ W.cell? ⟨b, o + i * 2, none⟩ = some (.int .i64 (lab ls i).1) ∧ W.cell? ⟨b, o + i * 2 + 1, none⟩ = some (.int .u32 (lab ls i).2)) := fun W hW i hi => HL.out.on hW i (hnn ▸ hi)
 have HCL : Hid (∀ W, LabsIn W a ls → Calls Tryz.prog 36 #[.slice a n c] W fun e w' => ∃ a' c', e = .returned (.slice a' n c') ∧ LabsIn w' a' ls ∧ Below W.heap.size W w') := fun W hh => by
  have := clone_ a c ls W hh (by omega) (by omega)
  rw [hnn] at this
  exact this
 clear hnn
 have h1 : ¬ n = 0 := by omega
 have h2 : ¬ (16 : Int) < (n : Int) := by omega
 have hmm := make47
 go_enter Tryz.func16, Tryz.ntmps16
 go_wp2_with fail
 go_loopw [22] (fun iv wr => ∃ k : Nat, k ≤ n ∧ iv = .int .i64 k ∧ Below w.heap.size w wr) (fun iv _ => n - (intOf iv).toNat)
 case atStart => exact ⟨0, Nat.zero_le _, rfl, Below.refl _ _⟩
 case round =>
  obtain ⟨k, hk, rfl, hbw⟩ := hrel
  by_cases hlt : k < n
  · obtain ⟨b, o, rfl, c1, c2⟩ := HLn.out wr hbw k hlt
    have hkk : okL (lab ls k).1 (lab ls k).2 = true := HOK.out k hlt
    have HKK := Lib.hid hkk
    clear hkk
    generalize (lab ls k).1 = r at *
    generalize (lab ls k).2 = cc at *
    go_wp2_with fail
    refine (valid12_yes r cc _ HKK.out).mono ?_
    rintro e w2 ⟨rfl, hb2⟩
    have hb3 : Below w.heap.size w w2 := (hbw.alloc hbw.size _).trans (hb2.mono (by have := hbw.size; simp; omega))
    go_wp2_with fail
    go_roundw
    case rel => exact ⟨k + 1, by omega, by go_num, hb3⟩
    case measure => simp [intOf]; omega
  · obtain rfl : k = n := by omega
    go_wp2_with fail
    rename World => W0
    have HM0 : Hid ((W0.alloc (.map #[] 0)).ownsMap Tryz.prog 70 (plainElem Tryz.prog 3) W0.heap.size 0 (.map [] : DataW Unit)) := World.ownsMap_made W0 _ _ _
    have hbm : Below w.heap.size w (W0.alloc (.map #[] 0)) := hbw.alloc hbw.size _
    go_loopw [37] (fun iv wq => ∃ (j : Nat) (D : DataW Unit), j ≤ k ∧ iv = .int .i64 j ∧ wq.ownsMap Tryz.prog 70 (plainElem Tryz.prog 3) W0.heap.size j D ∧ MapFacts D (ls.take j) ∧ (ls.take j).Nodup ∧ Below w.heap.size w wq) (fun iv _ => k - (intOf iv).toNat)
    case atStart => exact ⟨0, _, Nat.zero_le _, rfl, HM0.out, facts_none, List.nodup_nil, hbm⟩
    case round =>
     obtain ⟨j, D, hj, rfl, hown, hF, hnd, hbq⟩ := hrel
     have HMAP := Lib.hid hown
     have HF := Lib.hid hF
     have HND := Lib.hid hnd
     have hszq := hbq.size
     have hmlt := hown.lt
     clear hown hF hnd hbm HM0
     by_cases hjk : j < k
     · obtain ⟨b, o, rfl, c1, c2⟩ := HLn.out wr hbq j hjk
       obtain ⟨kl, hkey⟩ := key_some (lab ls j) (okLab_ok (HOK.out j hjk))
       have hkey' : keyOf Tryz.prog 70 (.agg #[.int .i64 (lab ls j).1, .int .u32 (lab ls j).2]) = some kl := hkey
       have HKEY := Lib.hid hkey'
       have hjl : j < ls.length := by rw [HNN.out]; exact hjk
       have HJL := Lib.hid hjl
       have htl : (ls.take j).length = j := by rw [List.length_take]; omega
       have HTL := Lib.hid htl
       have HPUT : Hid (lab ls j ∉ ls.take j → MapFacts (D.put kl (.lit (.int .i64 j))) (ls.take (j + 1))) := fun hm => by
        have := facts_put HF.out HMAP.out.isMap hm hkey
        rw [htl, ← take_snoc hjl] at this
        exact this
       have HHAS : Hid ((lab ls j ∈ ls.take j → Maps.has D kl = true) ∧ (lab ls j ∉ ls.take j → Maps.has D kl = false)) := by
        refine ⟨fun hm => ?_, (HF.out _ kl hkey).1⟩
        obtain ⟨i, hi, e⟩ := List.mem_iff_getElem.1 hm
        refine ((HF.out _ kl hkey).2 i hi ?_).1
        unfold lab
        rw [List.getD_eq_getElem?_getD, List.getElem?_eq_getElem hi]
        exact e
       clear hkey hkey' hjl htl
       generalize hR : (lab ls j).1 = r at *
       generalize hC : (lab ls j).2 = cc at *
       clear hR hC
       by_cases hm : lab ls j ∈ ls.take j
       · have hh := HHAS.out.1 hm
         have HTW := Lib.hid (take_twice HJL.out hm)
         clear hm HHAS HPUT
         go_wp2_with (first
          | (at_lookup; refine wpList_lookup_own_ok_int _ rfl _ _ 118 rfl 70 3 .i64 law Tryz.underlying118 Tryz.underlying3 (zero3 _) W0.heap.size j D rfl (HMAP.out.alloc _) _ kl rfl HKEY.out ?_; intro cv hat hwc)
          | go_in)
         have hb4 : Below w.heap.size w (wr.alloc (.cells #[.int .i64 r, .int .u32 cc] 70)) := hbq.alloc hszq _
         clear hat
         go_wp2
         go_ret2
         exact ⟨hb4, .inl ⟨HTW.out, rfl⟩⟩
       · have hh := HHAS.out.2 hm
         have HF2 := Lib.hid (HPUT.out hm)
         have HN2 : Hid ((ls.take (j + 1)).Nodup) := by
          unfold Hid
          rw [take_snoc HJL.out]
          refine List.nodup_append.2 ⟨HND.out, by simp, ?_⟩
          intro x hx y hy e
          simp only [List.mem_singleton] at hy
          subst hy; subst e
          exact hm hx
         clear hm HHAS HPUT
         go_wp2_with (first
          | (at_lookup; refine wpList_lookup_own_ok_int _ rfl _ _ 118 rfl 70 3 .i64 law Tryz.underlying118 Tryz.underlying3 (zero3 _) W0.heap.size j D rfl (HMAP.out.alloc _) _ kl rfl HKEY.out ?_; intro cv hat hwc; clear hat)
          | (at_mapUpdate; refine wpList_mapUpdate_own _ rfl _ _ _ 118 rfl 70 3 law Tryz.underlying118 (plainElem Tryz.prog 3) W0.heap.size j D rfl (HMAP.out.alloc _) (by unfold maxLen; omega) _ _ kl rfl rfl HKEY.out (.lit (.int .i64 j)) [] (plainElem_int Tryz.underlying3 (WalkArith.wf_i64 (by omega))) ?_; intro w3 hown3 hgrow3)
          | go_in)
         have hb4 : Below w.heap.size w w3 := (hbq.alloc hszq _).grown hgrow3 (by simp; omega) (fun g hg => by cases hg; exact hbw.size)
         have HM3 := Lib.hid hown3
         clear hown3 hgrow3
         go_wp2
         go_roundw
         case rel => exact ⟨j + 1, _, by omega, by go_num, HM3.out, HF2.out, HN2.out, hb4⟩
         case measure => simp [intOf]; omega
     · obtain rfl : j = k := by omega
       have HTK : Hid (ls.take j = ls) := List.take_of_length_le (by rw [HNN.out]; omega)
       go_wp2_with fail
       refine (HCL.out _ (HL.out.on hbq)).mono ?_
       rintro e w3 ⟨a3, c3, rfl, hin3, hb3⟩
       have HIN := Lib.hid hin3
       clear hin3
       go_wp2_with fail
       go_ret2
       have hb4 : Below w.heap.size w w3 := hbq.trans (hb3.mono hszq)
       refine ⟨hb4.alloc hb4.size _, .inr ⟨HTK.out ▸ HND.out, _, rfl, ?_⟩⟩
       have hal : Below w3.heap.size w3 (w3.alloc (.cells #[.slice a3 j c3, .map (some W0.heap.size)] 122)) := (Below.refl _ _).alloc (Nat.le_refl _) _
       have hmap : MapIn wr W0.heap.size ls := ⟨j, D, HMAP.out, Nat.le_of_eq HNN.out.symm, HTK.out ▸ HF.out⟩
       refine .inr ⟨w3.heap.size, a3, c3, W0.heap.size, rfl, ?_, HIN.out.on hal, ?_, (hmap.on hb3).on hal⟩
       · rw [HNN.out]; simp [go_sem]
       · simp [go_sem]
end Go.Proofs.YtalmanfjiblhcaaGreat.Lt
