/- journal.read: the bytes of an area's sectors; isNoughts; endsOf. -/
import Derived.Test.YtjnhcanohefjiaaGreatDoorDRead
import Derived.Test.YtjnhcanohefjiaaGreatDoorJArea
namespace Go.Proofs.YtjnhcanohefjiaaGreatDoor
open Go.RowKit Go.Sort Go.Maps

theorem own_some' {w : World} {base : Nat} {v : Value} {xs : List Nat} (h : Own w base v xs) (hp : 0 < xs.length) : ∃ g c, v = .slice (some ⟨g, 0, none⟩) xs.length c ∧ xs.length ≤ c ∧ base ≤ g ∧ g < w.heap.size := by
  rcases h.2 with ⟨_, e⟩ | ⟨g, cap, cur, e, h1, h2, h3, _⟩
  · omega
  · exact ⟨g, cap, e, h3, h1, blk_lt h2⟩
theorem World.size_alloc' (w : World) (o : Obj) : (w.alloc o).heap.size = w.heap.size + 1 := by simp
set_option maxRecDepth 100000 in
set_option maxHeartbeats 2000000 in
theorem jread_ {w : World} {p aa bb : Nat} {d : Dev} {K : Nat} (h : DevIn w p aa bb d K) (a : Ar) (hin : inJ d a) (hc : d.crashed = false) :
    Calls Tryz.prog 24 #[.pointer (some ⟨p, 0, none⟩), arV a] w fun e w' => ∃ g c, e = .returned (.tuple #[.slice (some ⟨g, 0, none⟩) (64 * a.s.toNat) c, .nilIface]) ∧ BytesIn w' (some ⟨g, 0, none⟩) (heldJ d a) ∧ 64 * a.s.toNat ≤ c ∧ Below w.heap.size w w' := by
  obtain ⟨i0, hi, hz0, hz1, hz2⟩ := info_parts infoB
  have hlim := h.lim
  have HR : Hid (∀ W (i : Nat), i < a.s.toNat → Below w.heap.size w W → Calls Tryz.prog 49 #[.pointer (some ⟨p, 0, none⟩), .int .i64 a.g, .int .i64 (a.f + i)] W (GotC W (readD d (a.g, a.f + i)))) := fun W i hi hW => read_ok (h.on hW) (a.g, a.f + i) (inJ_has hin hi) hc
  have HL : Hid (∀ i, (secsB d a.g a.f i).length = 64 * i) := secsB_len h.ok a.g a.f
  have HC : Hid (∀ i : Nat, (readD d (a.g, a.f + i)).length = 64) := fun i => (okC_read h.ok _).1
  have hb0 := arW'_below w a
  have hat := arW'_at w a
  obtain ⟨n, hn⟩ : ∃ n, n = a.s.toNat := ⟨_, rfl⟩
  unfold heldJ
  rw [← hn] at HR ⊢
  obtain ⟨i1, i2, i3, i4, i5, i6⟩ := hin
  have hs : a.s = (n : Int) := by omega
  have hn1 : 1 ≤ n := by omega
  have hn2 : n ≤ 16384 := by omega
  have hf2 : a.f ≤ 16384 := by omega
  unfold arW' at hb0 hat
  unfold arV
  obtain ⟨g, f, s⟩ := a
  simp only at *
  subst hs
  clear h hn i1 i2 i4 i5 i6
  have HB0 := Lib.hid hb0
  have HA := Lib.hid hat
  obtain ⟨x0, x1, x2⟩ := hat.cells
  simp only at x0 x1 x2
  have hw1 := wraps_i64 ((n : Int) * 64) (by omega) (by omega)
  clear hb0 hat
  have hsz := HB0.out.size
  go_enter Tryz.func24, Tryz.ntmps24
  go_wp2_with (first
    | (at_make; refine wpList_make_own _ rfl _ _ _ rfl w.heap.size 5 i0 _ 1 Tryz.underlying53 hi hz0 hz1 .i64 .i64 _ (64 * n) rfl rfl (by omega) (by rw [hz2]; omega) (by unfold maxLen; omega) hsz ?_
       intro w1 hown hgrow
       have HB := Lib.hid (HB0.out.grown hgrow hsz (fun k hk => by cases hk))
       have HO : Hid (Own w1 w.heap.size (.slice (some ⟨w.heap.size + 1, 0, none⟩) 0 (64 * n)) []) := by
         have q := hown
         rw [World.size_alloc'] at q
         exact q
       have HA1 := Lib.hid (HA.out.on (below_grown_none hgrow))
       obtain ⟨y0, y1, y2⟩ := HA1.out.cells
       clear hown hgrow x0 x1 x2)
    | fail)
  go_loopw [6, 16] (fun ov iv wr => ∃ i : Nat, iv = .int .i64 i ∧ i ≤ n ∧ Hid (Own wr w.heap.size ov (secsB d g f i)) ∧ Hid (Below w.heap.size w wr) ∧ Hid (ArAt wr w.heap.size ⟨g, f, (n : Int)⟩)) (fun _ iv _ => n - (intOf iv).toNat)
  case atStart => exact ⟨0, rfl, Nat.zero_le _, HO, HB, HA1⟩
  case round =>
    obtain ⟨i, rfl, hin, HO1, HB1, HA2⟩ := hrel
    clear HO HB y0 y1 y2 HA1
    obtain ⟨z0, z1, z2⟩ := HA2.out.cells
    by_cases hlt : i < n
    · have hlt2 : (i : Int) < (n : Int) := by omega
      have hwr := wraps_i64 (f + i) (by omega) (by omega)
      have HL1 := HL.out i
      go_wp2_with (first
        | (go_at_call 49; refine (HR.out _ i hlt HB1.out).mono ?_; rintro e w2 ⟨gg, rfl, hgg, hgb, hb2⟩
           have HO2 := Lib.hid (HO1.out.on hb2)
           have HB2 := Lib.hid (below_step HB1.out hb2)
           have HG := Lib.hid (ct_bytes 5 hgb)
           have HA3 := Lib.hid (HA2.out.on hb2)
           clear hgg hgb hb2)
        | (at_builtin; refine wpList_append_bytes _ rfl _ _ rfl w.heap.size _ (secsB d g f i) (readD d (g, f + i)) rfl HO2.out (some ⟨gg, 0, none⟩) 64 64 rfl (HC.out i) (by simp) HG.out (by rw [HL1, HC.out i]; omega) HB2.out.size ?_
           intro v' w3 hown hgrow
           have HO3 := Lib.hid hown
           have HB3 := Lib.hid (below_grow HB2.out HO2.out hgrow)
           have HA4 : Hid (ArAt w3 w.heap.size ⟨g, f, (n : Int)⟩) := (hgrow.block _ (blk_lt HA3.out) (fun e => by
             obtain ⟨cur, hc⟩ := row_block HO2.out e.symm
             have := HA3.out
             unfold ArAt at this
             rw [this] at hc
             simp only [Option.some.injEq, Obj.cells.injEq] at hc
             exact absurd hc.2.1 (by decide))).trans HA3.out
           clear hown hgrow)
        | fail)
      go_roundw
      case rel => exact ⟨i + 1, by go_num, by omega, by rw [secsB_snoc]; exact HO3, HB3, HA4⟩
      case measure => simp [intOf]; omega
    · have hlt2 : ¬ (i : Int) < (n : Int) := by omega
      obtain rfl : i = n := by omega
      have HL1 := HL.out i
      obtain ⟨gg, c, hv, hcap, _, _⟩ := own_some' HO1.out (by rw [HL1]; omega)
      subst hv
      have hby := HO1.out.cells.2.1
      rw [HL1] at hcap ⊢
      have HE := Lib.hid (And.intro hby hcap)
      clear hby hcap HL1
      go_wp2_with fail
      go_ret2
      exact ⟨gg, c, rfl, HE.out.1, HE.out.2, HB1.out⟩
set_option maxRecDepth 100000 in
set_option maxHeartbeats 1000000 in
theorem noughts_ (a : Option Addr) (xs : List Nat) (n c : Nat) (w : World) (h : BytesIn w a xs) (hn : xs.length = n) (hlim : n ≤ 1048576) :
    Calls Tryz.prog 51 #[.slice a n c] w fun e w' => e = .returned (.bool (nought xs)) ∧ w' = w := by
  have HN : Hid (nought xs = (xs.drop 0).all (fun x => decide (x = 0))) := rfl
  have HI := Lib.hid h
  clear h
  go_enter Tryz.func51, Tryz.ntmps51
  go_wp2_with fail
  go_loopw [7] (fun iv wr => ∃ i : Nat, iv = .int .i64 i ∧ i ≤ n ∧ wr = w ∧ Hid (nought xs = (xs.drop i).all (fun x => decide (x = 0)))) (fun iv _ => n - (intOf iv).toNat)
  case atStart => exact ⟨0, rfl, Nat.zero_le _, rfl, HN⟩
  case round =>
    obtain ⟨i, rfl, hi, rfl, HT⟩ := hrel
    by_cases hlt : i < n
    · obtain ⟨b, o, rfl, hcell⟩ := HI.out i (by omega)
      have hlt2 : (i : Int) < (n : Int) := by omega
      have hi0 : (0 : Int) ≤ (i : Int) := by omega
      have hd : xs.drop i = xs.getD i 0 :: xs.drop (i + 1) := by
        rw [List.drop_eq_getElem_cons (by omega), List.getD_eq_getElem?_getD, List.getElem?_eq_getElem (by omega)]; rfl
      have HD := Lib.hid hd
      generalize xs.getD i 0 = x at *
      clear hd
      by_cases hx : x = 0
      · subst hx
        go_wp2_with fail
        go_roundw
        case rel => exact ⟨i + 1, by go_num, by omega, trivial, by rw [HT.out, HD.out]; rfl⟩
        case measure => simp [intOf]; omega
      · have hx2 : ((x : Int) == 0) = false := by simpa using (by omega : ¬ (x : Int) = 0)
        have hf : nought xs = false := by rw [HT.out, HD.out]; simp [hx]
        go_wp2_with fail
        go_ret
        exact ⟨by first | rfl | (rw [hf]; rfl), rfl⟩
    · have hlt2 : ¬ (i : Int) < (n : Int) := by omega
      have ht : nought xs = true := by rw [HT.out, List.drop_eq_nil_of_le (by omega)]; rfl
      go_wp2_with fail
      go_ret
      exact ⟨by first | rfl | (rw [ht]; rfl), rfl⟩
end Go.Proofs.YtjnhcanohefjiaaGreatDoor
