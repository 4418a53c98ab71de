/- The law's sure: a record that was flushed is told behind a restart, one that waits is not; What the laws on journals share: a device with a journal on it, and lists of the law's own beside it. -/
import Derived.Test.YtjnhcanohefjiaaGreatDoorJJC
import Derived.Test.YtjnhcanohefjiaaGreatDoorDRestart
namespace Go.Proofs.YtjnhcanohefjiaaGreatDoor
open Go.RowKit Go.Sort Go.Maps

/-- A block of another type is none of a journal's own. -/
theorem Jn.free {w : World} {base p aa bb q : Nat} {d : Dev} {K : Nat} {J : Jr} {rv ev : Value} (h : Jn w base p aa bb q d K J rv ev) {k : Nat} {c : Array Value} {t : TypeId} {z : Nat × Nat} (hk : w.heap[k]? = some (.cells c t z)) (h1 : t ≠ 71) (h2 : t ≠ 80) (h3 : t ≠ 5) (h4 : t ≠ 3) : ¬ Mine p aa bb q rv ev k := by
  obtain ⟨d1, d2, d3⟩ := h.dev.other hk h1
  rintro (e | e | e | e | e | e)
  · exact d1 e
  · exact d2 e
  · exact d3 e
  · subst e
    rw [h.jr.blk] at hk
    simp only [Option.some.injEq, Obj.cells.injEq] at hk
    exact h2 hk.2.1.symm
  · exact row_apart h.jr.row hk (Ne.symm h3) e.symm
  · exact row_apart h.jr.ends hk (Ne.symm h4) e.symm
theorem ArAt.ext {w w' : World} {b : Nat} {a : Ar} {M M' : Nat → Prop} (h : ArAt w b a) (he : Ext M M' w w') (hn : ¬ M b) : ArAt w' b a := (he.block b (blk_lt h) hn).trans h
theorem Jn.area {w w' : World} {base p aa bb q b : Nat} {d : Dev} {K : Nat} {J : Jr} {rv ev : Value} {a : Ar} {M' : Nat → Prop} (h : Jn w base p aa bb q d K J rv ev) (ha : ArAt w b a) (he : Ext (Mine p aa bb q rv ev) M' w w') : ArAt w' b a := ha.ext he (h.free ha (by decide) (by decide) (by decide) (by decide))
theorem rec_le (ep : Nat) (he : ep < 18446744073709551616) (xs : List Nat) (hx : xs.length ≤ 1048576) : (recB ep xs).length ≤ xs.length + 24 := by
  have h1 := enc_le10 xs.length (by omega)
  have h2 := enc_le10 ep he
  rw [recB_length]
  omega
/-- An area of so many sectors, at the begin. -/
abbrev arN (n : Nat) : Ar := ⟨0, 0, (n : Int)⟩
theorem inR_n (n : Nat) (h : n ≤ 16384) : inR (arN n) := by
  unfold inR inI
  simp only
  omega
theorem inJ_n (n : Nat) (h1 : 1 ≤ n) : inJ (newD 1 n) (arN n) := by
  unfold inJ
  simp only [newD]
  omega
/-- A new device with a journal opened on it. -/
theorem opened_new (n : Nat) (h1 : 1 ≤ n) (h2 : n ≤ 16384) (ep : Nat) (he : ep < 18446744073709551616) : cleanE (arN n) ([] : List Nat) (newD 1 n) = 0 ∧ Calm (cleanD (arN n) [] (newD 1 n)) ⟨arN n, ep, [], 0, 0⟩ ∧ (cleanD (arN n) [] (newD 1 n)).armed = false := by
  have h := (Rest.new 1 n (by omega) (arN n) (inJ_n n h1)).opened he
  rw [open_new] at h
  exact h
/-- One record laid behind, where there is room for it. -/
theorem app_room {J : Jr} {xs : List Nat} (hd : J.dead = 0) (h1 : xs ≠ []) (h2 : xs.length ≤ 1000) (he : J.ep < 18446744073709551616) (hr : J.row.length + xs.length + 24 ≤ 64 * J.a.s.toNat) : appE J xs = 0 ∧ appJ J xs = { J with pss := J.pss ++ [xs] } := by
  have h0 : xs.length ≠ 0 := fun e => h1 (List.eq_nil_of_length_eq_zero e)
  have hl := rec_le J.ep he xs (by omega)
  have e : appE J xs = 0 := by
    unfold appE
    rw [if_neg (fun e => e hd), if_neg (fun e => e (refu_ok (by omega) (by omega))), if_neg (by omega)]
  exact ⟨e, if_pos e⟩
/-- Append of one byte that stands in a new block. -/
theorem append_one {V : World} {base p aa bb q : Nat} {d : Dev} {K : Nat} {J J' : Jr} {rv ev : Value} (h : Jn V base p aa bb q d K J rv ev) (x : Nat) (hx : x < 256) (he : appE J [x] = 0) (hj : appJ J [x] = J') (fr : Nat × Nat) :
    Calls Tryz.prog 18 #[.pointer (some ⟨q, 0, none⟩), .slice (some ⟨V.heap.size, 0, none⟩) 1 1] (V.alloc (.cells #[.int .u8 (x : Int)] 5 fr)) fun e w' => e = .returned .nilIface ∧ JnTo V base p aa bb q rv ev d K J' w' := by
  have q := jappend_ (h.on (below_alloc V (.cells #[.int .u8 (x : Int)] 5 fr))) (some ⟨V.heap.size, 0, none⟩) [x] 1 1 rfl (bytes_new V [x] fr) (fun y hy => by simp at hy; omega) (fun e => by cases e) (by decide)
  refine q.mono fun e w' ⟨h1, rv', ev', h2, h3⟩ => ⟨by rw [h1, he]; rfl, rv', ev', by rw [← hj]; exact h2, (Ext.of_below _ (below_alloc _ _)).trans h3⟩
/-- What the law's sure does, plainly. -/
theorem sure_plain : ∃ (d1 d2 : Dev) (J1 J2 J3 : Jr), cleanE (arN 8) [] (newD 1 (8 : Nat)) = 0 ∧ cleanD (arN 8) [] (newD 1 (8 : Nat)) = d1 ∧ appE ⟨arN 8, 1, [], 0, 0⟩ [97] = 0 ∧ appJ ⟨arN 8, 1, [], 0, 0⟩ [97] = J1 ∧ flushE d1 J1 = 0 ∧ flushD d1 J1 = d2 ∧ flushJ d1 J1 = J2 ∧ appE J2 [98] = 0 ∧ appJ J2 [98] = J3 ∧ Rest (restartD d2 []) (arN 8) ∧ (openJ (restartD d2 []) (arN 8) 1).pss = [[97]] ∧ J1.a = arN 8 ∧ J2.a = arN 8 := by
  obtain ⟨o1, o2, o3⟩ := opened_new 8 (by decide) (by decide) 1 (by decide)
  have hj0 : okJ ⟨arN 8, 1, [], 0, 0⟩ := ⟨fun p hp => (by cases hp), by decide, Nat.le_refl _, by decide, by decide, by decide, by decide⟩
  obtain ⟨a1, a2⟩ := app_room (J := ⟨arN 8, 1, [], 0, 0⟩) (xs := [97]) rfl (by decide) (by decide) (by decide) (by decide)
  have c1 := o2.append (Nat.le_refl _) [97]
  have hx97 : ∀ x ∈ [97], x < 256 := by decide
  have hx98 : ∀ x ∈ [98], x < 256 := by decide
  have hr97 := rec_le 1 (by decide) [97] (by decide)
  have hj1 : okJ { (⟨arN 8, 1, [], 0, 0⟩ : Jr) with pss := [] ++ [[97]] } := app_ok hj0 hx97 (by decide) (by
    show ¬ 64 * 8 < 0 + (recB 1 [97]).length
    simp only [List.length_singleton] at hr97
    omega)
  rw [a2] at c1
  obtain ⟨f1, f2⟩ := c1.flush_calm hj1 o3
  obtain ⟨g1, g2⟩ := c1.flush hj1 f1
  have hl1 : (allB 1 [[97]]).length ≤ 25 := by rw [allB_one]; exact hr97
  have hj2 : okJ (flushJ (cleanD (arN 8) [] (newD 1 (8 : Nat))) { (⟨arN 8, 1, [], 0, 0⟩ : Jr) with pss := [] ++ [[97]] }) := by rw [g2]; exact hj1.all
  obtain ⟨b1, b2⟩ := app_room (J := flushJ (cleanD (arN 8) [] (newD 1 (8 : Nat))) { (⟨arN 8, 1, [], 0, 0⟩ : Jr) with pss := [] ++ [[97]] }) (xs := [98]) g1.alive (by decide) (by decide) hj2.ep (by
    rw [g2]
    show (allB 1 [[97]]).length + 1 + 24 ≤ 64 * 8
    omega)
  have t1 := g1.told hj2 []
  rw [g2] at t1 b1
  refine ⟨_, _, _, _, _, o1, rfl, a1, a2, f1, rfl, g2, b1, rfl, Rest.restart g1.ok (by have := g1.inn; rw [g2] at this; exact this) ?_ [], t1, rfl, rfl⟩
  have hi := g1.inn
  have h0 := wrt_good c1.ok c1.pend c1.cr c1.inn hj1.byte (upto_lt (J := { (⟨arN 8, 1, [], 0, 0⟩ : Jr) with pss := [] ++ [[97]] }) (n := 0) (by decide)) hj1.len c1.row
  obtain ⟨w1, w2, w3⟩ := flush_some (d := cleanD (arN 8) [] (newD 1 (8 : Nat))) (J := { (⟨arN 8, 1, [], 0, 0⟩ : Jr) with pss := [] ++ [[97]] }) rfl (by decide)
  rw [w2] at f1
  have h1 := h0 f1
  rw [w1]
  obtain ⟨k1, k2, k3, k4, k5, k6⟩ := clean_good (okD_new 1 (8 : Nat)) rfl rfl (inJ_n 8 (by decide)) (fun x hx => by cases hx) (begins_nil _ _) o1
  have e1 := h1.2.2.2.2.1.trans k5
  have e2 := h1.2.2.2.2.2.trans k6
  rw [e1, e2]
  decide
set_option maxRecDepth 100000 in
set_option maxHeartbeats 2000000 in
theorem sure_ (w : World) : Calls Tryz.prog 10 #[] w fun e w' => e = .returned (.bool true) ∧ Below w.heap.size w w' := by
  have kc := fun (w : World) (C : Array Value) (n c : Nat) => Lib.run_convert_bytes_const (P := Tryz.prog) w 53 5 C n c Tryz.underlying53 Tryz.underlying5
  obtain ⟨d1, d2, J1, J2, J3, s1, s2, s3, s4, s5, s6, s7, s8, s9, s10, s11, s12, s13⟩ := sure_plain
  have HN := Lib.hid (new_ 1 8 w (by omega))
  have HO1 : Hid (∀ W, DevIn W (w.heap.size + 2) w.heap.size (w.heap.size + 1) (newD 1 8) 0 → w.heap.size ≤ W.heap.size → Calls Tryz.prog 7 #[.pointer (some ⟨w.heap.size + 2, 0, none⟩), .agg #[.int .i64 0, .int .i64 0, .int .i64 8], .int .u64 1] W fun e w' => ∃ q la lc, e = .returned (.tuple #[.pointer (some ⟨q, 0, none⟩), .slice la 0 lc, .nilIface]) ∧ ∃ rv ev, Jn w' w.heap.size (w.heap.size + 2) w.heap.size (w.heap.size + 1) q d1 8 ⟨arN 8, 1, [], 0, 0⟩ rv ev ∧ Ext (fun k => k = w.heap.size + 2 ∨ k = w.heap.size ∨ k = w.heap.size + 1) (Mine (w.heap.size + 2) w.heap.size (w.heap.size + 1) q rv ev) W w') := fun W hd hw => by
    have q := jopen_ hd (base := w.heap.size) ⟨by omega, by omega, by omega⟩ hw (arN 8) (inR_n 8 (by decide)) (inJ_n 8 (by decide)) rfl 1 (by decide) (by rw [show newD 1 8 = newD 1 ((8 : Nat) : Int) from rfl, open_new]; exact s1) (by decide)
    rw [show newD 1 8 = newD 1 ((8 : Nat) : Int) from rfl, open_new] at q
    rw [← s2]
    exact q.mono fun e w' ⟨q, rv, ev, la, lc, h1, h2, h3, h4, h5⟩ => ⟨q, la, lc, h1, rv, ev, h2, h5⟩
  have HO2 : Hid (∀ W K, K ≤ 100 → DevIn W (w.heap.size + 2) w.heap.size (w.heap.size + 1) (restartD d2 []) K → w.heap.size ≤ W.heap.size → Calls Tryz.prog 7 #[.pointer (some ⟨w.heap.size + 2, 0, none⟩), .agg #[.int .i64 0, .int .i64 0, .int .i64 8], .int .u64 1] W fun e w' => ∃ q la lc, e = .returned (.tuple #[.pointer (some ⟨q, 0, none⟩), .slice la 1 lc, .nilIface]) ∧ ListIn w' la [[97]] ∧ Below w.heap.size W w') := fun W K hK hd hw => by
    have q := jopen_ hd (base := w.heap.size) ⟨by omega, by omega, by omega⟩ hw (arN 8) (inR_n 8 (by decide)) s10.inn s10.cr 1 (by decide) ((s10.opened (by decide)).1) (by show K + 8 < 1000000; omega)
    refine q.mono fun e w' ⟨q, rv, ev, la, lc, h1, h2, h3, h4, h5⟩ => ?_
    rw [s11] at h1 h3
    exact ⟨q, la, lc, h1, h3.list, h5.below hw (fun k hk => by rcases hk with e | e | e <;> omega)⟩
  have HAp1 : Hid (∀ V q rv ev, Jn V w.heap.size (w.heap.size + 2) w.heap.size (w.heap.size + 1) q d1 8 ⟨arN 8, 1, [], 0, 0⟩ rv ev → Calls Tryz.prog 18 #[.pointer (some ⟨q, 0, none⟩), .slice (some ⟨V.heap.size, 0, none⟩) 1 1] (V.alloc (.cells #[.int .u8 97] 5 (1, 2))) fun e w' => e = .returned .nilIface ∧ JnTo V w.heap.size (w.heap.size + 2) w.heap.size (w.heap.size + 1) q rv ev d1 8 J1 w') := fun V q rv ev h => append_one h 97 (by decide) s3 s4 (1, 2)
  have HAp2 : Hid (∀ V q rv ev, Jn V w.heap.size (w.heap.size + 2) w.heap.size (w.heap.size + 1) q d2 16 J2 rv ev → Calls Tryz.prog 18 #[.pointer (some ⟨q, 0, none⟩), .slice (some ⟨V.heap.size, 0, none⟩) 1 1] (V.alloc (.cells #[.int .u8 98] 5 (1, 2))) fun e w' => e = .returned .nilIface ∧ JnTo V w.heap.size (w.heap.size + 2) w.heap.size (w.heap.size + 1) q rv ev d2 16 J3 w') := fun V q rv ev h => append_one h 98 (by decide) s8 s9 (1, 2)
  have HFl : Hid (∀ V q rv ev, Jn V w.heap.size (w.heap.size + 2) w.heap.size (w.heap.size + 1) q d1 8 J1 rv ev → Calls Tryz.prog 19 #[.pointer (some ⟨q, 0, none⟩)] V fun e w' => e = .returned .nilIface ∧ JnTo V w.heap.size (w.heap.size + 2) w.heap.size (w.heap.size + 1) q rv ev d2 16 J2 w') := fun V q rv ev h => by
    have q1 := jflush_ h (by rw [s12]; decide)
    rw [s5, s6, s7, s12] at q1
    exact q1
  have HRs : Hid (∀ V q rv ev, Jn V w.heap.size (w.heap.size + 2) w.heap.size (w.heap.size + 1) q d2 16 J3 rv ev → Calls Tryz.prog 34 #[.pointer (some ⟨w.heap.size + 2, 0, none⟩), .slice none 0 0] V fun e w' => e = .returned (.tuple #[]) ∧ DevIn w' (w.heap.size + 2) w.heap.size (w.heap.size + 1) (restartD d2 []) 16 ∧ Fd (w.heap.size + 2) w.heap.size (w.heap.size + 1) V w') := fun V q rv ev h => restart_ h.dev none [] 0 0 rfl (intsIn_nil _ _) (fun b o e => by cases e) (by decide)
  clear s1 s2 s3 s4 s5 s6 s7 s8 s9 s10 s11 s12 s13
  go_enter Tryz.func10, Tryz.ntmps10
  go_wp2_with fail
  refine HN.out.mono ?_
  rintro e w1 ⟨rfl, hb1, hd1⟩
  unfold pt
  obtain ⟨W, hW⟩ : ∃ W, W = w1.alloc (.cells #[.int .i64 0, .int .i64 0, .int .i64 8] 36) := ⟨_, rfl⟩
  have hbW : Below w1.heap.size w1 W := by rw [hW]; exact below_alloc _ _
  have HA : Hid (ArAt W w1.heap.size (arN 8)) := by rw [hW]; exact World.alloc_heap_new' _ _
  have HD := Lib.hid (hd1.on hbW)
  have HB := Lib.hid (below_step hb1 hbW)
  have HW := Lib.hid hW
  obtain ⟨x0, x1, x2⟩ := HA.out.cells
  have hbx : w.heap.size + 3 ≤ w1.heap.size := by have := hd1.lts.1; omega
  clear hW hbW hb1 hd1 HN
  go_wp2_with fail
  rw [← HW.out]
  refine (HO1.out W HD.out HB.out.size).mono ?_
  rintro e w2 ⟨q, la, lc, rfl, rv, ev, hj2, hx2⟩
  have HJ2 := Lib.hid hj2
  have HB2 : Hid (Below w.heap.size w w2) := HB.out.trans (hx2.below HB.out.size (fun k hk => by rcases hk with e | e | e <;> omega))
  have HA2 : Hid (ArAt w2 w1.heap.size (arN 8)) := HA.out.ext hx2 (by rintro (e | e | e) <;> omega)
  generalize w1.heap.size = bx at *
  clear hj2 hx2 HB HA HD HW x0 x1 x2 HO1
  go_wp2_with fail
  refine (HAp1.out _ _ _ _ HJ2.out).mono ?_
  rintro e w3 ⟨rfl, rv3, ev3, hj3, hx3⟩
  have HJ3 := Lib.hid hj3
  have HB3 : Hid (Below w.heap.size w w3) := HB2.out.trans (hx3.below HB2.out.size (fun k hk => (HJ2.out.mine k hk).1))
  have HA3 := Lib.hid (HJ2.out.area HA2.out hx3)
  clear hj3 hx3 HJ2 HB2 HA2 HAp1
  go_wp2_with fail
  refine (HFl.out _ _ _ _ HJ3.out).mono ?_
  rintro e w4 ⟨rfl, rv4, ev4, hj4, hx4⟩
  have HJ4 := Lib.hid hj4
  have HB4 : Hid (Below w.heap.size w w4) := HB3.out.trans (hx4.below HB3.out.size (fun k hk => (HJ3.out.mine k hk).1))
  have HA4 := Lib.hid (HJ3.out.area HA3.out hx4)
  clear hj4 hx4 HJ3 HB3 HA3 HFl
  go_wp2_with fail
  refine (HAp2.out _ _ _ _ HJ4.out).mono ?_
  rintro e w5 ⟨rfl, rv5, ev5, hj5, hx5⟩
  have HJ5 := Lib.hid hj5
  have HB5 : Hid (Below w.heap.size w w5) := HB4.out.trans (hx5.below HB4.out.size (fun k hk => (HJ4.out.mine k hk).1))
  have HA5 := Lib.hid (HJ4.out.area HA4.out hx5)
  clear hj5 hx5 HJ4 HB4 HA4 HAp2 kc
  go_wp2_with fail
  refine (HRs.out _ _ _ _ HJ5.out).mono ?_
  rintro e w6 ⟨rfl, hd6, hf6⟩
  have HD6 := Lib.hid hd6
  have HB6 : Hid (Below w.heap.size w w6) := HB5.out.trans (hf6.below HB5.out.size (by omega) (by omega) (by omega))
  have HA6 := Lib.hid (HJ5.out.area HA5.out (Ext.of_fd q rv5 ev5 hf6))
  obtain ⟨x0, x1, x2⟩ := HA6.out.cells
  clear hd6 hf6 HJ5 HB5 HA5 HRs
  go_wp2_with fail
  refine (HO2.out _ 16 (by decide) HD6.out HB6.out.size).mono ?_
  rintro e w7 ⟨q7, la7, lc7, rfl, hl7, hb7⟩
  obtain ⟨b, o, rfl, a8, c8, h8, h8b⟩ := hl7 0 (by decide)
  have hcv := conv_ w7 a8 1 c8 [97] rfl h8b
  have hbs : bs [97] = ⟨#[97]⟩ := rfl
  rw [hbs] at hcv
  have h8' : w7.cell? ⟨b, o, none⟩ = some (.slice a8 1 c8) := h8
  have HB7 := Lib.hid (HB6.out.trans hb7)
  clear hl7 h8 h8b hb7 HD6 HB6 HA6 x0 x1 x2 HO2 hbs
  go_wp2_with fail
  go_ret
  exact ⟨rfl, HB7.out⟩
end Go.Proofs.YtjnhcanohefjiaaGreatDoor

namespace Go.Proofs.YtjnhcanohefjiaaGreatDoor
open Go.RowKit Go.Sort Go.Maps

/-- The law's state: all that lay there stays; the area in a box; the journal. -/
structure LI (w : World) (bx q n : Nat) (d : Dev) (K : Nat) (J : Jr) (rv ev : Value) (wr : World) : Prop where
  bw : Below w.heap.size w wr
  jn : Jn wr w.heap.size (w.heap.size + 2) w.heap.size (w.heap.size + 1) q d K J rv ev
  ar : ArAt wr bx (arN n)
abbrev MineL (w : World) (q : Nat) (rv ev : Value) : Nat → Prop := Mine (w.heap.size + 2) w.heap.size (w.heap.size + 1) q rv ev
theorem LI.on {w wr V : World} {bx q n : Nat} {d : Dev} {K : Nat} {J : Jr} {rv ev : Value} (h : LI w bx q n d K J rv ev wr) (hb : Below wr.heap.size wr V) : LI w bx q n d K J rv ev V := ⟨below_step h.bw hb, h.jn.on hb, h.ar.on hb⟩
theorem LI.ext {w wr V : World} {bx q n : Nat} {d d' : Dev} {K K' : Nat} {J J' : Jr} {rv ev rv' ev' : Value} (h : LI w bx q n d K J rv ev wr) (hj : Jn V w.heap.size (w.heap.size + 2) w.heap.size (w.heap.size + 1) q d' K' J' rv' ev') (hx : Ext (MineL w q rv ev) (MineL w q rv' ev') wr V) : LI w bx q n d' K' J' rv' ev' V :=
  ⟨h.bw.trans (hx.below h.bw.size (fun k hk => (h.jn.mine k hk).1)), hj, h.jn.area h.ar hx⟩
theorem LI.to {w wr V : World} {bx q n : Nat} {d d' : Dev} {K K' : Nat} {J J' : Jr} {rv ev : Value} (h : LI w bx q n d K J rv ev wr) (hj : JnTo wr w.heap.size (w.heap.size + 2) w.heap.size (w.heap.size + 1) q rv ev d' K' J' V) : ∃ rv' ev', LI w bx q n d' K' J' rv' ev' V ∧ Ext (MineL w q rv ev) (MineL w q rv' ev') wr V := by
  obtain ⟨rv', ev', h1, h2⟩ := hj
  exact ⟨rv', ev', h.ext h1 h2, h2⟩
/-- A row of slices of the law's own is none of the journal's. -/
theorem Jn.rows {w : World} {base p aa bb q b2 : Nat} {d : Dev} {K : Nat} {J : Jr} {rv ev v : Value} {vs : List Value} (h : Jn w base p aa bb q d K J rv ev) (hr : OwnR w b2 v vs) {g : Nat} (hg : v.ownBlock = some g) : ¬ Mine p aa bb q rv ev g := by
  obtain ⟨cur, hc⟩ := row_block hr hg
  exact h.free hc (by decide) (by decide) (by decide) (by decide)
theorem OwnR.ext {w w' : World} {base b2 p aa bb q : Nat} {d : Dev} {K : Nat} {J : Jr} {rv ev v : Value} {vs : List Value} {M' : Nat → Prop} (hr : OwnR w b2 v vs) (h : Jn w base p aa bb q d K J rv ev) (hx : Ext (Mine p aa bb q rv ev) M' w w') : OwnR w' b2 v vs :=
  row_keep hr fun g hg => hx.block g (World.ownsRow.lt hr g hg).2 (h.rows hr hg)
theorem Jn.beside {w w' : World} {base p aa bb q b2 : Nat} {d : Dev} {K : Nat} {J : Jr} {rv ev v : Value} {vs : List Value} (h : Jn w base p aa bb q d K J rv ev) (hr : OwnR w b2 v vs) (hg : w.grownBy w' v.ownBlock) : Jn w' base p aa bb q d K J rv ev := by
  have far : ∀ k, Mine p aa bb q rv ev k → w'.heap[k]? = w.heap[k]? := fun k hk => hg.block k (h.mine k hk).2 (fun e => h.rows hr e.symm hk)
  exact ⟨h.dev.keep (far p (.inl rfl)) (far aa (.inr (.inl rfl))) (far bb (.inr (.inr (.inl rfl)))), h.jr.keep (far q (.inr (.inr (.inr (.inl rfl))))) (fun g hgg => far g (.inr (.inr (.inr (.inr (.inl hgg)))))) (fun g hgg => far g (.inr (.inr (.inr (.inr (.inr hgg)))))), h.lo⟩
theorem LI.grow {w wr V : World} {bx q n : Nat} {d : Dev} {K : Nat} {J : Jr} {rv ev v : Value} {vs : List Value} (h : LI w bx q n d K J rv ev wr) (hr : OwnR wr w.heap.size v vs) (hg : wr.grownBy V v.ownBlock) : LI w bx q n d K J rv ev V := by
  refine ⟨h.bw.grown hg h.bw.size (fun k hk => (World.ownsRow.lt hr k hk).1), h.jn.beside hr hg, ?_⟩
  refine (hg.block bx (blk_lt h.ar) (fun e => ?_)).trans h.ar
  exact row_apart hr h.ar (by decide) e
end Go.Proofs.YtjnhcanohefjiaaGreatDoor
