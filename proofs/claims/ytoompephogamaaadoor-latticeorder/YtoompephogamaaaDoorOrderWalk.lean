/- The walk of the law LatticeOrder: it returns true. -/
import Derived.Test.YtoompephogamaaaDoorSure
import Derived.Test.YtoompephogamaaaDoorAbove
namespace Go.Proofs.YtoompephogamaaaDoor
open Go.RowKit Go.Sort

theorem get_mem {zs : List Nat} {j : Nat} (h : j < zs.length) : zs.getD j 0 ∈ zs := by
  rw [List.getD_eq_getElem?_getD, List.getElem?_eq_getElem h]; exact List.getElem_mem h
/-- What the labels' order is good for. -/
structure Good (ls : List Lab) (os : List Nat) : Prop where
  len : os.length = ls.length
  lt : ∀ i, i < ls.length → os.getD i 0 < ls.length
  once : ∀ k i, k < i → i < ls.length → os.getD k 0 ≠ os.getD i 0
  behind : ∀ k i, k < i → i < ls.length → dm (lab ls (os.getD k 0)) (lab ls (os.getD i 0)) = false
theorem good_order {ls : List Lab} (hw : allW ls) (hd : ls.Nodup) : Good ls (orderL ls) := by
  have hl := order_len hw hd
  refine ⟨hl, fun i hi => order_mem (get_mem (by omega)), fun k i hk hi => order_once k i hk (by omega), fun k i hk hi => ?_⟩
  have h1 := order_behind (ls := ls) k i hk (by omega)
  have h2 : (orderL ls).getD k 0 < ls.length := order_mem (get_mem (by omega))
  have h3 : (orderL ls).getD i 0 < ls.length := order_mem (get_mem (by omega))
  cases hb : dm (lab ls ((orderL ls).getD k 0)) (lab ls ((orderL ls).getD i 0))
  · rfl
  · rw [domAt_nat.2 ⟨⟨h2, h3⟩, hb⟩] at h1
    cases h1

set_option maxHeartbeats 4000000 in
set_option maxRecDepth 100000 in
theorem order_no (a : Option Addr) (c : Nat) (ls : List Lab) (w : World) (h : LabsIn w a ls) (hw : allW ls) (hn : ls.length * 16 ≤ 140737488355328) (hnil : ls.length = 0 → a = none → c = 0) (hne : newErr ls ≠ 0) :
    Calls Tryd.prog 4 #[.slice a ls.length c] w fun e w' => e = .returned (.bool true) ∧ Below w.heap.size w w' := by
  have HT := Lib.hid (twin_ a c ls w h hn hnil)
  have HNEW : Hid (∀ (a : Option Addr) (c : Nat) (W : World), LabsIn W a ls → Calls Tryd.prog 5 #[.slice a ls.length c] W fun e w' => Below W.heap.size W w' ∧ Says ls (newErr ls) e w') := fun a c W hh => new_ a c ls W hh hw
  have HNE := Lib.hid hne
  clear h hn hnil hw hne
  generalize ls.length = n at *
  go_enter Tryd.func4, Tryd.ntmps4
  go_wp2_with fail
  refine HT.out.mono ?_
  rintro e w1 ⟨a1, c1, rfl, hin1, hb1⟩
  have HN1 := Lib.hid (HNEW.out a1 c1 w1 hin1)
  clear hin1 HT
  go_wp2_with fail
  refine HN1.out.mono ?_
  rintro e w2 ⟨hb2, p, er, rfl, ⟨_, rfl, rfl⟩ | ⟨h0, _⟩⟩
  · have hb3 : Below w.heap.size w w2 := hb1.trans (hb2.mono hb1.size)
    clear HN1
    generalize newErr ls = k at *
    go_wp2_with fail
    refine (sure_ _).mono ?_
    rintro e w4 ⟨rfl, hb4⟩
    have hb5 : Below w.heap.size w w4 := hb3.trans (hb4.mono hb3.size)
    go_wp2_with fail
    go_ret
    exact ⟨rfl, hb5⟩
  · exact absurd h0 HNE.out
end Go.Proofs.YtoompephogamaaaDoor
