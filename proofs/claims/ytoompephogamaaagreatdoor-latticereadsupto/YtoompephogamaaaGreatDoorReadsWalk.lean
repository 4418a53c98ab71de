/- The walk of the law LatticeReads: it returns true. -/
import Derived.Test.YtoompephogamaaaGreatDoorRParse3
import Derived.Test.YtoompephogamaaaGreatDoorParse3
import Derived.Test.YtoompephogamaaaGreatDoorRText
import Derived.Test.YtoompephogamaaaGreatDoorSure
import Derived.Test.YtoompephogamaaaGreatDoorAs
namespace Go.Proofs.YtoompephogamaaaGreatDoor
open Go.RowKit Go.Sort

theorem join_pieces : ∀ t : List UInt8, Lib.join (pieces t) [32] = t
  | [] => by simp [pieces, Lib.join_one]
  | c :: r => by
    have ih := join_pieces r
    rcases hq : pieces r with _ | ⟨q, qs⟩
    · exact absurd hq (pieces_ne r)
    · rw [hq, Lib.join_cons] at ih
      unfold pieces
      rw [hq]
      split
      · rename_i e
        rw [Lib.join_cons]
        simp only [Lib.joinTail, List.map_cons, List.flatten_cons, List.nil_append]
        rw [e, ← ih]
        simp [Lib.joinTail]
      · rw [Lib.join_cons]
        simp only [List.headD_cons, List.tail_cons, List.cons_append]
        rw [ih]

set_option maxHeartbeats 4000000 in
set_option maxRecDepth 100000 in
/-- Both give an error, of one number. -/
theorem reads_err (s : ByteArray) (k : Int) (w : World) (hE : ErrType w) (hk : k ≠ 0) (h1 : Calls Tryz.prog 16 #[.string s] w fun e w' => Below w.heap.size w w' ∧ e = .returned (.tuple #[.pointer none, .iface 49 (.int .i64 k)])) (h2 : ∀ W, Calls Tryz.prog 17 #[.string s] W fun e w' => Below W.heap.size W w' ∧ ∃ v, e = .returned (.tuple #[v, .int .i64 k])) :
    Calls Tryz.prog 4 #[.string s] w fun e w' => e = .returned (.bool true) ∧ Below w.heap.size w w' := by
  have H1 := Lib.hid h1
  have H2 := Lib.hid h2
  have HE : Hid (∀ W, Below w.heap.size w W → ErrType W) := fun W hW => hE.on hW
  clear h1 h2 hE
  go_enter Tryz.func4, Tryz.ntmps4
  go_wp2_with fail
  refine H1.out.mono ?_
  rintro e w1 ⟨hb1, rfl⟩
  go_wp2_with fail
  refine (H2.out _).mono ?_
  rintro e w2 ⟨hb2, v, rfl⟩
  have hb3 : Below w.heap.size w w2 := hb1.trans (hb2.mono hb1.size)
  have HN := Lib.hid (num11 k w2 (HE.out w2 hb3))
  clear hb1 hb2 H1 H2
  go_wp2_with fail
  refine HN.out.mono ?_
  rintro e w3 ⟨rfl, hb4⟩
  have hb5 : Below w.heap.size w w3 := hb3.trans (hb4.mono hb3.size)
  clear hb3 hb4 HN
  go_wp2_with fail
  refine (sure_ _).mono ?_
  rintro e w4 ⟨rfl, hb6⟩
  have hb7 : Below w.heap.size w w4 := hb5.trans (hb6.mono hb5.size)
  go_wp2_with fail
  go_ret
  exact ⟨rfl, hb7⟩

set_option maxHeartbeats 4000000 in
set_option maxRecDepth 100000 in
theorem reads_ok (R : List UInt8) (w : World) (h1 : Calls Tryz.prog 16 #[.string ⟨R.toArray⟩] w fun e w' => Below w.heap.size w w' ∧ ∃ q, e = .returned (.tuple #[.pointer (some ⟨q, 0, none⟩), .nilIface]) ∧ ∀ W, Below w'.heap.size w' W → Calls Tryz.prog 14 #[.pointer (some ⟨q, 0, none⟩)] W fun e w'' => e = .returned (.string ⟨R.toArray⟩) ∧ Below W.heap.size W w'')
    (h2 : ∀ W, Calls Tryz.prog 17 #[.string ⟨R.toArray⟩] W fun e w' => Below W.heap.size W w' ∧ ∃ v, e = .returned (.tuple #[v, .int .i64 0]) ∧ ∀ W', Below w'.heap.size w' W' → Calls Tryz.prog 15 #[v] W' fun e w'' => e = .returned (.string ⟨R.toArray⟩) ∧ Below W'.heap.size W' w'') :
    Calls Tryz.prog 4 #[.string ⟨R.toArray⟩] w fun e w' => e = .returned (.bool true) ∧ Below w.heap.size w w' := by
  have H1 := Lib.hid h1
  have H2 := Lib.hid h2
  clear h1 h2
  go_enter Tryz.func4, Tryz.ntmps4
  go_wp2_with fail
  refine H1.out.mono ?_
  rintro e w1 ⟨hb1, q, rfl, ht⟩
  have HT := Lib.hid ht
  clear ht
  go_wp2_with fail
  refine (H2.out _).mono ?_
  rintro e w2 ⟨hb2, v, rfl, hr⟩
  have HR := Lib.hid hr
  clear hr H1 H2
  go_wp2_with fail
  refine (HT.out w2 hb2).mono ?_
  rintro e w3 ⟨rfl, hb3⟩
  go_wp2_with fail
  refine (HR.out w3 hb3).mono ?_
  rintro e w4 ⟨rfl, hb4⟩
  have hb14 : Below w1.heap.size w1 w4 := hb2.trans ((hb3.trans (hb4.mono hb3.size)).mono hb2.size)
  have HT4 := Lib.hid (HT.out w4 hb14)
  clear HT HR hb2 hb3 hb4
  go_wp2_with fail
  refine HT4.out.mono ?_
  rintro e w5 ⟨rfl, hb5⟩
  have hb6 : Below w.heap.size w w5 := hb1.trans ((hb14.trans (hb5.mono hb14.size)).mono hb1.size)
  clear HT4 hb5 hb14 hb1
  go_wp2_with fail
  refine (sure_ _).mono ?_
  rintro e w6 ⟨rfl, hb7⟩
  have hb8 : Below w.heap.size w w6 := hb6.trans (hb7.mono hb6.size)
  go_wp2_with fail
  go_ret
  exact ⟨rfl, hb8⟩

theorem reads_ (s : ByteArray) (w : World) (hs : s.size ≤ 1048576) (hv : Vars w) (hE : ErrType w) :
    Calls Tryz.prog 4 #[.string s] w fun e w' => e = .returned (.bool true) ∧ Below w.heap.size w w' := by
  rcases read_or s.data.toList with ⟨ls, hok, hp⟩ | hbad
  · by_cases hz : newErr ls = 0
    · obtain ⟨h0, h16, _, hd⟩ := newErr_zero hz
      have hj : s = ⟨(joinL ls).toArray⟩ := by
        unfold joinL
        rw [← hp, join_pieces]
      have hp1 := parse_yes s ls w (by omega) hp hok
      have hp2 := fun W => r2Parse_yes s ls W hs hp hok
      rw [hj] at hp1 hp2 ⊢
      refine reads_ok (joinL ls) w (hp1.mono ?_) (fun W => (hp2 W).mono ?_)
      · rintro e w' ⟨hb, p, er, he, ⟨hne, _⟩ | ⟨_, h1, q, h2, h3⟩⟩
        · exact absurd hz hne
        · subst h1 h2
          exact ⟨hb, q, he, fun W hW => text_ _ ls W (h3.on hW) hok h16⟩
      · rintro e w' ⟨hb, ⟨hne, _⟩ | ⟨_, a, c, he, hl⟩⟩
        · exact absurd hz hne
        · exact ⟨hb, _, he, fun W hW => r2Text_ a c ls W (hl.on hW) hok h16⟩
    · refine reads_err s (newErr ls) w hE hz ((parse_yes s ls w (by omega) hp hok).mono ?_) (fun W => (r2Parse_yes s ls W hs hp hok).mono ?_)
      · rintro e w' ⟨hb, p, er, he, ⟨_, h1, h2⟩ | ⟨h0, _⟩⟩
        · subst h1 h2
          exact ⟨hb, he⟩
        · exact absurd h0 hz
      · rintro e w' ⟨hb, ⟨_, v, he⟩ | ⟨h0, _⟩⟩
        · exact ⟨hb, v, he⟩
        · exact absurd h0 hz
  · exact reads_err s 3 w hE (by decide) (parse_no s w (by omega) hv hbad) (fun W => r2Parse_no s W hs hbad)
end Go.Proofs.YtoompephogamaaaGreatDoor
