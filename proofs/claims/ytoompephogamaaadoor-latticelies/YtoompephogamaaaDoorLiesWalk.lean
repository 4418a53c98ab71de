/- The walk of the law LatticeLies: it returns true. -/
import Derived.Test.YtoompephogamaaaDoorSure
import Derived.Test.YtoompephogamaaaDoorAbove
import Derived.Test.YtoompephogamaaaDoorRef2
import Derived.Test.YtoompephogamaaaDoorRef3
import Derived.Test.YtoompephogamaaaDoorTextW
namespace Go.Proofs.YtoompephogamaaaDoor
open Go.RowKit Go.Sort

set_option maxHeartbeats 4000000 in
set_option maxRecDepth 100000 in
theorem lies_no (a : Option Addr) (c : Nat) (i j : Int) (ls : List Lab) (w : World) (h : LabsIn w a ls) (hw : allW ls) (hn : ls.length * 16 ≤ 140737488355328) (hnil : ls.length = 0 → a = none → c = 0) (hne : newErr ls ≠ 0) :
    Calls Tryd.prog 3 #[.slice a ls.length c, .int .i64 i, .int .i64 j] w fun e w' => e = .returned (.bool true) ∧ Below w.heap.size w w' := by
  have HT := Lib.hid (twin_ a c ls w h hn hnil)
  have HNEW : Hid (∀ (a : Option Addr) (c : Nat) (W : World), LabsIn W a ls → Calls Tryd.prog 5 #[.slice a ls.length c] W fun e w' => Below W.heap.size W w' ∧ Says ls (newErr ls) e w') := fun a c W hh => new_ a c ls W hh hw
  have HNE := Lib.hid hne
  have hz : ∀ W, LatIn W (.pointer none) [] := fun W => .inl ⟨rfl, rfl⟩
  have hwz : allW [] := fun x hx => by simp at hx
  have HLEN : Hid (∀ W, Calls Tryd.prog 7 #[.pointer none] W fun e w' => e = .returned (.int .i64 0) ∧ w' = W) := fun W => len_ _ [] W (hz W)
  have HBEL : Hid (∀ W, Calls Tryd.prog 8 #[.pointer none, .int .i64 0] W fun e w' => ∃ a c, e = .returned (.slice a 0 c) ∧ Below W.heap.size W w') := fun W => (below_ _ 0 [] W (hz W) hwz (by simp)).mono fun e w' ⟨a, c, he, _, hb⟩ => ⟨a, c, he, hb⟩
  have HORD : Hid (∀ W, Calls Tryd.prog 9 #[.pointer none] W fun e w' => ∃ a c, e = .returned (.slice a 0 c) ∧ Below W.heap.size W w') := fun W => (order_ _ [] W (hz W) hwz List.nodup_nil (by simp)).mono fun e w' ⟨a, c, he, _, hb⟩ => ⟨a, c, he, hb⟩
  have HTXT : Hid (∀ W, Calls Tryd.prog 10 #[.pointer none] W fun e w' => e = .returned (.string ⟨#[]⟩) ∧ Below W.heap.size W w') := fun W => text_ _ [] W (hz W) rfl (by simp)
  clear h hn hnil hw hne hz hwz
  generalize ls.length = n at *
  go_enter Tryd.func3, Tryd.ntmps3
  go_wp2_with fail
  refine HT.out.mono ?_
  rintro e w1 ⟨a1, c1, rfl, hin1, hb1⟩
  have HN1 := Lib.hid (HNEW.out a1 c1 w1 hin1)
  clear hin1 HT
  go_wp2_with fail
  refine HN1.out.mono ?_
  rintro e w2 ⟨hb2, p, er, rfl, ⟨_, rfl, rfl⟩ | ⟨h0, _⟩⟩
  · have hb3 : Below w.heap.size w w2 := hb1.trans (hb2.mono hb1.size)
    clear HN1 hb1 hb2
    generalize newErr ls = k at *
    go_wp2_with fail
    refine (HLEN.out _).mono ?_
    rintro e w4 ⟨rfl, rfl⟩
    go_wp2_with fail
    refine (HBEL.out _).mono ?_
    rintro e w5 ⟨a5, c5, rfl, hb5⟩
    have hb6 : Below w.heap.size w w5 := hb3.trans (hb5.mono hb3.size)
    clear hb3 hb5
    go_wp2_with fail
    refine (HORD.out _).mono ?_
    rintro e w6 ⟨a6, c6, rfl, hb7⟩
    have hb8 : Below w.heap.size w w6 := hb6.trans (hb7.mono hb6.size)
    clear hb6 hb7
    go_wp2_with fail
    refine (HTXT.out _).mono ?_
    rintro e w7 ⟨rfl, hb9⟩
    have hb10 : Below w.heap.size w w7 := hb8.trans (hb9.mono hb8.size)
    clear hb8 hb9
    go_wp2_with fail
    refine (sure_ _).mono ?_
    rintro e w8 ⟨rfl, hb11⟩
    have hb12 : Below w.heap.size w w8 := hb10.trans (hb11.mono hb10.size)
    go_wp2_with fail
    go_ret
    exact ⟨rfl, hb12⟩
  · exact absurd h0 HNE.out

set_option maxHeartbeats 4000000 in
set_option maxRecDepth 100000 in
theorem lies_yes (a : Option Addr) (c : Nat) (i j : Int) (ls : List Lab) (w : World) (h : LabsIn w a ls) (hw : allW ls) (hn : ls.length * 16 ≤ 140737488355328) (he : newErr ls = 0) :
    Calls Tryd.prog 3 #[.slice a ls.length c, .int .i64 i, .int .i64 j] w fun e w' => e = .returned (.bool true) ∧ Below w.heap.size w w' := by
  obtain ⟨h0, h16, hok, hd⟩ := newErr_zero he
  have HT := Lib.hid (twin_ a c ls w h hn (fun e => by omega))
  have hNEW : ∀ (a : Option Addr) (c : Nat) (W : World), LabsIn W a ls → Calls Tryd.prog 5 #[.slice a ls.length c] W fun e w' => Below W.heap.size W w' ∧ ∃ q, e = .returned (.tuple #[.pointer (some ⟨q, 0, none⟩), .nilIface]) ∧ LatIn w' (.pointer (some ⟨q, 0, none⟩)) ls := fun a c W hh => (new_ a c ls W hh hw).mono fun e w' => by
    rintro ⟨hb, p, er, he', ⟨h1, _⟩ | ⟨_, h1, q, h2, h3⟩⟩
    · exact absurd he h1
    · subst h1 h2
      exact ⟨hb, q, he', h3⟩
  have HNEW := Lib.hid hNEW
  have HORD : Hid (∀ (v : Value) (W : World), LatIn W v ls → Calls Tryd.prog 9 #[v] W fun e w' => ∃ a' c', e = .returned (.slice a' (orderL ls).length c') ∧ IntsIn w' a' (orderL ls) ∧ Below W.heap.size W w') := fun v W hh => order_ v ls W hh hw hd h16
  have HR2O : Hid (∀ (W : World), LabsIn W a ls → Calls Tryd.prog 18 #[.slice a ls.length c] W fun e w' => ∃ a' c', e = .returned (.slice a' (orderL ls).length c') ∧ IntsIn w' a' (orderL ls) ∧ Below W.heap.size W w') := fun W hh => r2Order_ a c ls W hh hw hd h16
  have HBEL : Hid (∀ (v : Value) (W : World), LatIn W v ls → Calls Tryd.prog 8 #[v, .int .i64 i] W fun e w' => ∃ a' c', e = .returned (.slice a' (belowL ls i).length c') ∧ IntsIn w' a' (belowL ls i) ∧ Below W.heap.size W w') := fun v W hh => below_ v i ls W hh hw h16
  have HR2B : Hid (∀ (W : World), LabsIn W a ls → Calls Tryd.prog 13 #[.slice a ls.length c, .int .i64 i] W fun e w' => ∃ a' c', e = .returned (.slice a' (belowL ls i).length c') ∧ IntsIn w' a' (belowL ls i) ∧ Below W.heap.size W w') := fun W hh => r2Below_ a c i ls W hh hw h16
  have HABO : Hid (∀ (v : Value) (W : World), LatIn W v ls → Calls Tryd.prog 14 #[v, .int .i64 i] W fun e w' => ∃ a' c', e = .returned (.slice a' (aboveL ls i).length c') ∧ IntsIn w' a' (aboveL ls i) ∧ Below W.heap.size W w') := fun v W hh => above_ v i ls W hh hw h16
  have HR2A : Hid (∀ (W : World), LabsIn W a ls → Calls Tryd.prog 15 #[.slice a ls.length c, .int .i64 i] W fun e w' => ∃ a' c', e = .returned (.slice a' (aboveL ls i).length c') ∧ IntsIn w' a' (aboveL ls i) ∧ Below W.heap.size W w') := fun W hh => r2Above_ a c i ls W hh hw h16
  have HDOM : Hid (∀ (v : Value) (W : World), LatIn W v ls → Calls Tryd.prog 16 #[v, .int .i64 i, .int .i64 j] W fun e w' => e = .returned (.bool (domAt ls i j)) ∧ Below W.heap.size W w') := fun v W hh => dom_ v i j ls W hh hw
  have HR2D : Hid (∀ (W : World), LabsIn W a ls → Calls Tryd.prog 17 #[.slice a ls.length c, .int .i64 i, .int .i64 j] W fun e w' => e = .returned (.bool (domAt ls i j)) ∧ Below W.heap.size W w') := fun W hh => r2Dom_ a c i j ls W hh hw
  have hI : ∀ (x : List Nat), x.length ≤ 16 → ∀ (a b : Option Addr) (c d : Nat) (W : World), IntsIn W a x → IntsIn W b x → Calls Tryd.prog 12 #[.slice a x.length c, .slice b x.length d] W fun e w' => e = .returned (.bool true) ∧ Below W.heap.size W w' := fun x hx a b c d W h1 h2 => by
    have := ints_ a b c d x x W h1 h2 hx
    simpa using this
  have HIB := Lib.hid (hI (belowL ls i) (Nat.le_trans (below_len ls i) h16))
  have HIA := Lib.hid (hI (aboveL ls i) (Nat.le_trans (upTo_len _ _) h16))
  have HIO := Lib.hid (hI (orderL ls) (Nat.le_trans (roundN_len ls _) h16))
  have HL : Hid (∀ W, Below w.heap.size w W → LabsIn W a ls) := fun W hW => h.on hW
  clear hNEW hI h hw hn he hok hd h16 h0
  generalize belowL ls i = zb at *
  generalize aboveL ls i = za at *
  generalize orderL ls = zo at *
  generalize domAt ls i j = x at *
  generalize ls.length = n at *
  generalize zb.length = nb at *
  generalize za.length = na at *
  generalize zo.length = no at *
  go_enter Tryd.func3, Tryd.ntmps3
  go_wp2_with fail
  refine HT.out.mono ?_
  rintro e w1 ⟨a1, c1, rfl, hin1, hb1⟩
  have HN1 := Lib.hid (HNEW.out a1 c1 w1 hin1)
  clear hin1 HT
  go_wp2_with fail
  refine HN1.out.mono ?_
  rintro e w2 ⟨hb2, q, rfl, hl2⟩
  have hbw2 : Below w.heap.size w w2 := hb1.trans (hb2.mono hb1.size)
  have HL2 : Hid (∀ W, Below w2.heap.size w2 W → LatIn W (.pointer (some ⟨q, 0, none⟩)) ls) := fun W hW => hl2.on hW
  have HLA : Hid (∀ W, Below w2.heap.size w2 W → LabsIn W a ls) := fun W hW => HL.out W (hbw2.trans (hW.mono hbw2.size))
  clear hl2 HN1 hb1 hb2 HL HNEW
  go_wp2_with fail
  refine (HBEL.out _ w2 (HL2.out w2 (Below.refl _ _))).mono ?_
  rintro e w3 ⟨a3, c3, rfl, hin3, hb3⟩
  go_wp2_with fail
  refine (HR2B.out w3 (HLA.out w3 hb3)).mono ?_
  rintro e w4 ⟨a4, c4, rfl, hin4, hb4⟩
  have hb24 : Below w2.heap.size w2 w4 := hb3.trans (hb4.mono hb3.size)
  have HC := Lib.hid (HIB.out a3 a4 c3 c4 w4 (hin3.on hb4) hin4)
  clear hin3 hin4 hb3 hb4
  go_wp2_with fail
  refine HC.out.mono ?_
  rintro e w5 ⟨rfl, hb5⟩
  have hb25 : Below w2.heap.size w2 w5 := hb24.trans (hb5.mono hb24.size)
  clear HC hb5 hb24
  go_wp2_with fail
  refine (HABO.out _ w5 (HL2.out w5 hb25)).mono ?_
  rintro e w6 ⟨a6, c6, rfl, hin6, hb6⟩
  have hb26 : Below w2.heap.size w2 w6 := hb25.trans (hb6.mono hb25.size)
  clear hb6 hb25
  go_wp2_with fail
  refine (HR2A.out w6 (HLA.out w6 hb26)).mono ?_
  rintro e w7 ⟨a7, c7, rfl, hin7, hb7⟩
  have hb27 : Below w2.heap.size w2 w7 := hb26.trans (hb7.mono hb26.size)
  have HC := Lib.hid (HIA.out a6 a7 c6 c7 w7 (hin6.on hb7) hin7)
  clear hin6 hin7 hb7 hb26
  go_wp2_with fail
  refine HC.out.mono ?_
  rintro e w8 ⟨rfl, hb8⟩
  have hb28 : Below w2.heap.size w2 w8 := hb27.trans (hb8.mono hb27.size)
  clear HC hb8 hb27
  go_wp2_with fail
  refine (HDOM.out _ w8 (HL2.out w8 hb28)).mono ?_
  rintro e w9 ⟨rfl, hb9⟩
  have hb29 : Below w2.heap.size w2 w9 := hb28.trans (hb9.mono hb28.size)
  clear hb9 hb28
  go_wp2_with fail
  refine (HR2D.out w9 (HLA.out w9 hb29)).mono ?_
  rintro e w10 ⟨rfl, hb10⟩
  have hb210 : Below w2.heap.size w2 w10 := hb29.trans (hb10.mono hb29.size)
  clear hb10 hb29
  go_wp2_with fail
  refine (HORD.out _ w10 (HL2.out w10 hb210)).mono ?_
  rintro e w11 ⟨a11, c11, rfl, hin11, hb11⟩
  have hb211 : Below w2.heap.size w2 w11 := hb210.trans (hb11.mono hb210.size)
  clear hb11 hb210
  go_wp2_with fail
  refine (HR2O.out w11 (HLA.out w11 hb211)).mono ?_
  rintro e w12 ⟨a12, c12, rfl, hin12, hb12⟩
  have hb212 : Below w2.heap.size w2 w12 := hb211.trans (hb12.mono hb211.size)
  have HC := Lib.hid (HIO.out a11 a12 c11 c12 w12 (hin11.on hb12) hin12)
  clear hin11 hin12 hb12 hb211
  go_wp2_with fail
  refine HC.out.mono ?_
  rintro e w13 ⟨rfl, hb13⟩
  have hb213 : Below w2.heap.size w2 w13 := hb212.trans (hb13.mono hb212.size)
  clear HC hb13 hb212
  go_wp2_with fail
  refine (sure_ _).mono ?_
  rintro e w14 ⟨rfl, hb14⟩
  have hb15 : Below w.heap.size w w14 := hbw2.trans ((hb213.trans (hb14.mono hb213.size)).mono hbw2.size)
  go_wp2_with fail
  go_ret
  exact ⟨rfl, hb15⟩
end Go.Proofs.YtoompephogamaaaDoor
