/- The walk of row.Decode; The walks of row.truthByte and row.lay; The walk of row.Encode. -/
import Derived.Test.YtalmanfjiblhcaaGreatJ25
import Derived.Test.YtalmanfjiblhcaaGreatJ24
import Derived.Test.YtalmanfjiblhcaaGreatJ23
namespace Go.Proofs.YtalmanfjiblhcaaGreat.Rw
open Go.RowKit Go.Sort
def DecTo (w : World) (cs : List Col) (xs : List Nat) (e : Ending) (w' : World) : Prop :=
 ((∃ (l : List Val) (a : Option Addr) (c : Nat), IsRow cs xs l ∧ e = .returned (.tuple #[.slice a l.length c, .nilIface]) ∧ ValsIn w' a l ∧ ∀ b o, a = some ⟨b, o, none⟩ → w.heap.size ≤ b) ∨ ((∀ l, ¬ IsRow cs xs l) ∧ e = .returned (.tuple #[.slice none 0 0, .iface 77 (.int .i64 3)]))) ∧ Below w.heap.size w w'
def LeftAt (w : World) (n : Nat) (a : Option Addr) (l c : Nat) (r : List Nat) : Prop := r.length = l ∧ l ≤ c ∧ l ≤ n ∧ (∀ x ∈ r, x < 256) ∧ BytesIn w a r
set_option maxRecDepth 100000 in
set_option maxHeartbeats 2000000 in
theorem rdecode_ (nm : ByteArray) (at_ : Option Addr) (ct : Nat) (cs : List Col) (a : Option Addr) (c : Nat) (xs : List Nat) (w : World) (hc : ColsIn w at_ cs) (h : BytesIn w a xs) (hb : ∀ x ∈ xs, x < 256) (hcl : cs.length ≤ 1048576) (hlim : xs.length ≤ 9223372036854775) (hcap : xs.length ≤ c) :
 Calls Tryz.prog 52 #[.agg #[.string nm, .slice at_ cs.length ct], .slice a xs.length c] w (DecTo w cs xs) := by
 obtain ⟨C, hC⟩ : ∃ C, cs.length = C := ⟨_, rfl⟩
 have HC := Lib.hid hC
 have HJ := Lib.hid hc
 obtain ⟨n, hn⟩ : ∃ n, xs.length = n := ⟨_, rfl⟩
 have HL0 : Hid (LeftAt w n a n c xs) := ⟨hn, by omega, Nat.le_refl _, hb, h⟩
 rw [hC] at hcl
 rw [hC, hn]
 rw [hn] at hlim
 clear hc h hb hcap hn hC
 obtain ⟨t0, t1⟩ := inT_new w nm at_ C ct 44
 have HT := Lib.hid (inT_new w nm at_ C ct 44)
 have HB0 : Hid (Below w.heap.size w (w.alloc (.cells #[.string nm, .slice at_ C ct] 44))) := below_alloc1 _ _
 go_enter Tryz.func52, Tryz.ntmps52
 go_wp2_with fail
 obtain ⟨B, hB⟩ : ∃ B, w.heap.size = B := ⟨_, rfl⟩
 have HBe := Lib.hid hB
 rw [hB] at HT
 generalize w.alloc (.cells #[.string nm, .slice at_ C ct] 44) = V at *
 have HJ1 := Lib.hid (HJ.out.on HB0.out)
 have HL1 : Hid (LeftAt V n a n c xs) := ⟨HL0.out.1, HL0.out.2.1, HL0.out.2.2.1, HL0.out.2.2.2.1, HL0.out.2.2.2.2.on HB0.out⟩
 clear HJ HL0 t0 t1 hB
 go_loopw [1, 6, 15] (fun bv lv iv wr => ∃ (i : Nat) (r : List Nat) (p : List Val) (ar : Option Addr) (rl cr : Nat), i ≤ C ∧ iv = .int .i64 i ∧ bv = .slice ar rl cr ∧ Hid (LeftAt V n ar rl cr r) ∧ Hid (DecI cs xs i p r) ∧ Hid (OwnV wr V.heap.size lv p) ∧ Hid (Below V.heap.size V wr)) (fun _ _ iv _ => C - (intOf iv).toNat)
 case atStart => exact ⟨0, xs, [], a, n, c, Nat.zero_le _, rfl, rfl, HL1, dec_start _ _, ownV_nil _ _, Below.refl _ _⟩
 case round =>
  clear HL1
  obtain ⟨i, r, p, ar, rl, cr, hi, rfl, rfl, HL, HD, HO, HBw⟩ := hrel
  by_cases hlt : i < C
  · have hlt2 : (i : Int) < (C : Int) := by omega
    have hi1 : i < cs.length := by rw [HC.out]; exact hlt
    obtain ⟨b1, o1, rfl, cn, kc, ky, nl, hci, q0, q1, q2, q3⟩ := ColsIn.get (HJ1.out.on HBw.out) i hi1
    obtain ⟨hr1, hr2, hr3, hr4, hr5⟩ := HL.out
    have HF0 : Hid (∀ W, Below wr.heap.size wr W → Calls Tryz.prog 83 #[.int .i64 kc, .slice ar rl cr] W fun e w' => e = .returned (.tuple #[agV (firstR kc r).1, .int .i64 (firstR kc r).2.1, .bool (firstR kc r).2.2]) ∧ Below W.heap.size W w') := fun W hW => by
     have := first_ kc ar r cr W ((hr5.on HBw.out).on hW) hr4 (by omega) (by omega)
     rw [hr1] at this
     exact this
    have hfk : firstR cs[i].k r = firstR kc r := by rw [hci]
    obtain ⟨vv, m, ok, hF⟩ : ∃ vv m ok, firstR kc r = (vv, m, ok) := ⟨_, _, _, rfl⟩
    have HFK : Hid (firstR cs[i].k r = (vv, m, ok)) := hfk.trans hF
    rw [hF] at HF0
    obtain ⟨k, n1, t, bb⟩ := vv
    have HF : Hid (∀ W, Below wr.heap.size wr W → Calls Tryz.prog 83 #[.int .i64 kc, .slice ar rl cr] W fun e w' => e = .returned (.tuple #[.agg #[.int .i64 k, .int .i64 n1, .string t, .bool bb], .int .i64 m, .bool ok]) ∧ Below W.heap.size W w') := HF0
    clear HF0 hF hfk hci hr1 hr3 hr4 hr5
    have HBa := Lib.hid (below_alloc1 wr (.cells #[.string cn, .int .i64 kc, .bool ky, .bool nl] 112))
    obtain ⟨r0, r1, r2, r3⟩ := inC_new wr ⟨cn, kc, ky, nl⟩ 112
    simp only at r0 r1 r2 r3
    cases ok with
    | false =>
      have HX : Hid (∀ l, ¬ IsRow cs xs l) := dec_bad hi1 HD.out (by rw [HFK.out])
      clear HFK HD HL hr2
      go_wp2_with fail
      refine (HF.out _ HBa.out).mono ?_
      rintro e w1 ⟨rfl, hb1⟩
      have HB1 := Lib.hid (below_step (below_step HBw.out (below_step HBa.out hb1)) (below_alloc1 w1 (.cells #[.int .i64 k, .int .i64 n1, .string t, .bool bb] 73)))
      clear hb1 HF HBa HBw q0 q1 q2 q3 r0 r1 r2 r3 HO
      go_wp2_with fail
      exact bodyPost_ret (v := .tuple #[.slice none 0 0, .iface 77 (.int .i64 3)]) (by simp [results, Tryz.results52, go_sem]) rfl ⟨.inr ⟨HX.out, rfl⟩, below_step HB0.out HB1.out⟩
    | true =>
      obtain ⟨hl1, hl2, hl3, hl4, hl5⟩ := HL.out
      have hD2 := dec_next hi1 HD.out hl4 HFK.out
      obtain ⟨_, hml, _⟩ := first_back hl4 HFK.out
      have hrp : 0 < r.length := by
       have := HFK.out
       unfold firstR at this
       rcases Nat.eq_zero_or_pos r.length with h0 | h0
       · rw [if_pos (.inl h0)] at this; simp at this
       · exact h0
      obtain ⟨b0, o0, rfl, _⟩ := hl5 0 hrp
      have HD2 := Lib.hid hD2
      have hroom : (p.length + [(⟨k, n1, t, bb⟩ : Val)].length) * 40 ≤ 140737488355328 := by rw [HD.out.1]; simp; omega
      have hm1 : (m : Int) ≤ (rl : Int) := by omega
      have hm2 : (m : Int) ≤ (cr : Int) := by omega
      have HL2 : Hid (LeftAt V n (if cr = m then (some ⟨b0, o0, none⟩ : Option Addr) else some ⟨b0, o0 + m, none⟩) (rl - m) (cr - m) (r.drop m)) := ⟨by rw [List.length_drop, hl1], by omega, by omega, fun x hx => hl4 x (List.mem_of_mem_drop hx), hl5.cutAt (by omega)⟩
      clear HFK HD HL hD2 hml hl1 hl3 hl4 hl5 hrp
      go_wp2_with fail
      refine (HF.out _ HBa.out).mono ?_
      rintro e w1 ⟨rfl, hb1⟩
      have hwv := below_step (below_step HBa.out hb1) (below_alloc1 w1 (.cells #[.int .i64 k, .int .i64 n1, .string t, .bool bb] 73))
      have HI4 := Lib.hid (in4_new w1 k n1 t bb 73)
      have HWV := Lib.hid hwv
      have HNE : Hid (some w1.heap.size ≠ Value.ownBlock _) := fun e => by
       have := HO.out.lt w1.heap.size e.symm
       have := (below_step HBa.out hb1).size
       omega
      have hsz : w1.heap.size < (w1.alloc (.cells #[.int .i64 k, .int .i64 n1, .string t, .bool bb] 73)).heap.size := blk_lt (heap_alloc_new w1 _)
      clear hb1 HF HBa q0 q1 q2 q3 r0 r1 r2 r3 hwv
      go_wp2_with fail
      have HO9 := Lib.hid (HO.out.on HWV.out)
      have HB9 := Lib.hid (below_step HBw.out HWV.out)
      clear HO HBw
      generalize w1.alloc (.cells #[.int .i64 k, .int .i64 n1, .string t, .bool bb] 73) = W9 at *
      generalize w1.heap.size = B9 at *
      have HAP : Hid (∀ Wc w2, Below W9.heap.size W9 Wc → Wc.grownBy w2 u6.ownBlock → ((w2.cell? ⟨B9, 0, none⟩ = some (.int .i64 k) ∧ w2.cell? ⟨B9, 1, none⟩ = some (.int .i64 n1) ∧ w2.cell? ⟨B9, 2, none⟩ = some (.string t) ∧ w2.cell? ⟨B9, 3, none⟩ = some (.bool bb)) ∧ Below V.heap.size V w2)) := fun Wc w2 hWc hg => by
       obtain ⟨c0, c1, c2, c3⟩ := HI4.out.on hWc
       have hl : B9 < Wc.heap.size := Nat.lt_of_lt_of_le hsz hWc.size
       refine ⟨⟨?_, ?_, ?_, ?_⟩, ?_⟩
       · exact (hg.cell_far ⟨B9, 0, none⟩ hl HNE.out).trans c0
       · exact (hg.cell_far ⟨B9, 1, none⟩ hl HNE.out).trans c1
       · exact (hg.cell_far ⟨B9, 2, none⟩ hl HNE.out).trans c2
       · exact (hg.cell_far ⟨B9, 3, none⟩ hl HNE.out).trans c3
       · exact (below_step HB9.out hWc).grown hg (below_step HB9.out hWc).size (fun q hq => ((HO9.out.on hWc).lt q hq).1)
      have HK : Hid (∀ Wc, Below W9.heap.size W9 Wc → ((Wc.cell? ⟨B9, 0, none⟩ = some (.int .i64 k) ∧ Wc.cell? ⟨B9, 1, none⟩ = some (.int .i64 n1) ∧ Wc.cell? ⟨B9, 2, none⟩ = some (.string t) ∧ Wc.cell? ⟨B9, 3, none⟩ = some (.bool bb)) ∧ Below V.heap.size V Wc)) := fun Wc hWc => ⟨HI4.out.on hWc, below_step HB9.out hWc⟩
      clear hsz
      refine wp_region_noPanic ?_
      go_region_held_law (fun W' => (W'.cell? ⟨B9, 0, none⟩ = some (.int .i64 k) ∧ W'.cell? ⟨B9, 1, none⟩ = some (.int .i64 n1) ∧ W'.cell? ⟨B9, 2, none⟩ = some (.string t) ∧ W'.cell? ⟨B9, 3, none⟩ = some (.bool bb)) ∧ Below V.heap.size V W')
       (first | assumption | exact HK.out _ (Below.refl _ _) | exact HK.out _ (below_drew _) | exact HK.out _ (below_alloc1 _ _) | exact HK.out _ ((Below.refl _ _).drew.alloc (Nat.le_refl _) _) | exact HK.out _ ((Below.refl _ _).alloc (Nat.le_refl _) _).drew)
       (first
         | (refine step_append_vals _ rfl _ _ rfl V.heap.size _ p [⟨k, n1, t, bb⟩] rfl (HO9.out.on (by first | exact (Below.refl _ _).drew.alloc (Nat.le_refl _) _ | exact ((Below.refl _ _).alloc (Nat.le_refl _) _).drew | exact below_alloc1 _ _)) _ 0 1 1 rfl rfl (one_inV (in4_new _ k n1 t bb _)) hroom (by have := HB9.out.size; simp; omega) ?_
            intro v' w2 hown hgrow hblk
            have hS2 := HAP.out _ w2 (by first | exact (Below.refl _ _).drew.alloc (Nat.le_refl _) _ | exact ((Below.refl _ _).alloc (Nat.le_refl _) _).drew | exact below_alloc1 _ _) hgrow
            have HO3 := Lib.hid hown
            clear hown hgrow hblk)
         | fail)
      refine NoPanic.normal ?_
      have HB3 := Lib.hid hS2.2
      clear hS2
      go_wp2_with fail
      go_roundw
      case rel => exact ⟨i + 1, r.drop m, p ++ [⟨k, n1, t, bb⟩], _, _, _, by omega, by go_num, rfl, HL2, HD2, HO3, HB3⟩
      case measure => simp [intOf]; omega
  · obtain rfl : i = C := by omega
    obtain ⟨a', c', rfl, hvin, _⟩ := HO.out.vals
    have HFr : Hid (∀ b o, a' = some ⟨b, o, none⟩ → w.heap.size ≤ b) := fun b o e => Nat.le_trans HB0.out.size (World.ownsRow.lt HO.out b (by rw [e]; rfl)).1
    have hpl := HD.out.1
    obtain ⟨hl1, hl2, hl3, hl4, hl5⟩ := HL.out
    obtain ⟨t0, t1⟩ := HT.out.on HBw.out
    have HBz := Lib.hid (below_step HB0.out HBw.out)
    rw [hpl]
    by_cases h0 : rl = 0
    · subst h0
      have hr0 : r = [] := List.eq_nil_of_length_eq_zero hl1
      subst hr0
      have HDc : Hid (DecI cs xs cs.length p []) := by rw [HC.out]; exact HD.out
      have HK : Hid (∀ W, Below wr.heap.size wr W → Calls Tryz.prog 75 #[.agg #[.string nm, .slice at_ i ct], .slice a' i c'] W fun e w' => e = .returned (errV 77 (chkR cs p)) ∧ Below W.heap.size W w') := fun W hW => by
       have := check_ nm at_ ct cs a' c' p W ((HJ1.out.on HBw.out).on hW) (hvin.on hW) (by rw [HC.out]; omega) (by rw [hpl]; omega)
       rw [HC.out, hpl] at this
       exact this
      have HPL := Lib.hid hpl
      have HVI := Lib.hid hvin
      rw [← HBe.out] at t0 t1
      clear hl1 hl2 hl3 hl4 hl5 hpl hvin HL HO HD HJ1
      by_cases hz : chkR cs p = 0
      · have h0' : errV 77 (chkR cs p) = .nilIface := by rw [errV, if_pos hz]
        rw [h0'] at HK
        have HR : Hid (IsRow cs xs p) := dec_ok HDc.out hz
        clear hz h0' HDc
        go_wp2_with fail
        refine (HK.out _ (Below.refl _ _)).mono ?_
        rintro e w1 ⟨rfl, hb1⟩
        have HB1 := Lib.hid hb1
        clear hb1 HK
        go_wp2_with fail
        exact bodyPost_ret (v := .tuple #[.slice a' i c', .nilIface]) (by simp [results, Tryz.results52, go_sem]) rfl ⟨.inl ⟨p, a', c', HR.out, by rw [HPL.out], HVI.out.on HB1.out, HFr.out⟩, below_step HBz.out HB1.out⟩
      · obtain ⟨E, hE⟩ : ∃ E, errV 77 (chkR cs p) = .iface 77 (.int .i64 E) := ⟨_, by rw [errV, if_neg hz]⟩
        rw [hE] at HK
        have HX : Hid (∀ l, ¬ IsRow cs xs l) := dec_chk HDc.out hz
        clear hz hE HDc
        go_wp2_with fail
        refine (HK.out _ (Below.refl _ _)).mono ?_
        rintro e w1 ⟨rfl, hb1⟩
        have HB1 := Lib.hid hb1
        clear hb1 HK
        go_wp2_with fail
        exact bodyPost_ret (v := .tuple #[.slice none 0 0, .iface 77 (.int .i64 3)]) (by simp [results, Tryz.results52, go_sem]) rfl ⟨.inr ⟨HX.out, rfl⟩, below_step HBz.out HB1.out⟩
    · have hpos : (0 : Int) < (rl : Int) := by omega
      have HX : Hid (∀ l, ¬ IsRow cs xs l) := dec_rest (p := p) (r := r) (by rw [HC.out]; exact HD.out) (fun e => by rw [e] at hl1; simp at hl1; omega)
      clear hl1 hl2 hl3 hl4 hl5 hpl hvin HL HO HD HJ1
      go_wp2_with fail
      exact bodyPost_ret (v := .tuple #[.slice none 0 0, .iface 77 (.int .i64 3)]) (by simp [results, Tryz.results52, go_sem]) rfl ⟨.inr ⟨HX.out, rfl⟩, HBz.out⟩
end Go.Proofs.YtalmanfjiblhcaaGreat.Rw
namespace Go.Proofs.YtalmanfjiblhcaaGreat.Rw
open Go.RowKit Go.Sort
theorem truth_ (b : Bool) (w : World) : Calls Tryz.prog 113 #[.bool b] w fun e w' => e = .returned (.int .u8 ((if b = true then 1 else 0 : Nat) : Int)) ∧ w' = w := by
 cases b
 all_goals
  go_enter Tryz.func113, Tryz.ntmps113
  go_wp2_with fail
  go_ret
  exact ⟨rfl, rfl⟩
theorem far4 {W1 Wa w2 : World} {B : Nat} {k n : Int} {t : ByteArray} {b : Bool} {v : Value} (h : In4 W1 B 0 k n t b) (hb : Below W1.heap.size W1 Wa) (hg : Wa.grownBy w2 v.ownBlock) (hne : some B ≠ v.ownBlock) : In4 w2 B 0 k n t b := by
 obtain ⟨h0, h1, h2, h3⟩ := h.on hb
 exact ⟨(hg.cell_far _ (block_lt_of_cell h0) hne).trans h0, (hg.cell_far _ (block_lt_of_cell h1) hne).trans h1, (hg.cell_far _ (block_lt_of_cell h2) hne).trans h2, (hg.cell_far _ (block_lt_of_cell h3) hne).trans h3⟩
set_option maxRecDepth 100000 in
set_option maxHeartbeats 1000000 in
theorem rlay_null (N : Nat) (n : Int) (t : ByteArray) (b : Bool) (v : Value) (xs : List Nat) (w : World) (hN : N ≤ w.heap.size) (hl : xs.length + 5000 ≤ 140737488355328) (hown : Own w N v xs) :
 Calls Tryz.prog 76 #[v, .agg #[.int .i64 0, .int .i64 n, .string t, .bool b]] w fun e w' => ∃ v', e = .returned v' ∧ Own w' N v' (xs ++ layV ⟨0, n, t, b⟩) ∧ Below N w w' := by
 obtain ⟨ZS, hZ⟩ : ∃ ZS, ZS = xs ++ layV ⟨0, n, t, b⟩ := ⟨_, rfl⟩
 have HZ : Hid (∀ (v' : Value) (W : World), Own W N v' (xs ++ [0]) → Own W N v' ZS) := fun v' W h => by rw [hZ]; exact h
 have hal : Below w.heap.size w (w.alloc (.cells #[.int .i64 0, .int .i64 n, .string t, .bool b] 73)) := (Below.refl _ _).alloc (Nat.le_refl _) _
 have HO := Lib.hid (hown.on hal)
 have HB := Lib.hid (hal.mono hN)
 have HNE := Lib.hid (hown.far (B := w.heap.size) (Nat.le_refl _))
 have HP := Lib.hid (in4_new w 0 n t b 73)
 obtain ⟨p0, p1, p2, p3⟩ := HP.out
 have HN := Lib.hid hN
 rw [← hZ]
 clear hown hal hN hZ
 go_enter Tryz.func76, Tryz.ntmps76
 go_wp2_with (first
  | (at_builtin; refine wpList_append_bytes _ rfl _ _ rfl N _ xs [0] rfl (HO.out.on (by first | exact ((Below.refl _ _).alloc (Nat.le_refl _) _).drew | exact (Below.refl _ _).drew.alloc (Nat.le_refl _) _ | exact (Below.refl _ _).alloc (Nat.le_refl _) _)) (some ⟨_, 0, none⟩) 1 1 rfl rfl (fun h => by cases h) (one_at _ _ (by simp) 0) (by simp; omega) (Nat.le_trans HN.out (Nat.le_trans HB.out.size (by simp))) ?_
     intro v' w2 hown hg
     have HO2 := Lib.hid (HZ.out _ _ hown)
     have HB2 := Lib.hid (below_grow HN.out (below_stepN HN.out HB.out (by first | exact ((Below.refl _ _).alloc (Nat.le_refl _) _).drew | exact (Below.refl _ _).drew.alloc (Nat.le_refl _) _ | exact (Below.refl _ _).alloc (Nat.le_refl _) _)) (HO.out.on (by first | exact ((Below.refl _ _).alloc (Nat.le_refl _) _).drew | exact (Below.refl _ _).drew.alloc (Nat.le_refl _) _ | exact (Below.refl _ _).alloc (Nat.le_refl _) _)) hg)
     clear hown hg HO)
  | fail)
 go_ret
 exact ⟨_, rfl, HO2.out, HB2.out⟩
set_option maxRecDepth 100000 in
set_option maxHeartbeats 1000000 in
theorem rlay_int (N : Nat) (n : Int) (t : ByteArray) (b : Bool) (v : Value) (xs : List Nat) (w : World) (hN : N ≤ w.heap.size) (hn : inI n) (hl : xs.length + 5000 ≤ 140737488355328) (hown : Own w N v xs) :
 Calls Tryz.prog 76 #[v, .agg #[.int .i64 1, .int .i64 n, .string t, .bool b]] w fun e w' => ∃ v', e = .returned v' ∧ Own w' N v' (xs ++ layV ⟨1, n, t, b⟩) ∧ Below N w w' := by
 obtain ⟨ZS, hZ⟩ : ∃ ZS, ZS = xs ++ layV ⟨1, n, t, b⟩ := ⟨_, rfl⟩
 obtain ⟨YS, hY⟩ : ∃ YS, YS = xs ++ [1] := ⟨_, rfl⟩
 obtain ⟨ES, hES⟩ : ∃ ES, ES = enc (zz n) := ⟨_, rfl⟩
 have hel : ES.length ≤ 4110 := by have := enc_le10 (zz n) (zz_lt n hn.1 hn.2); rw [hES]; omega
 have hln : YS.length + ES.length ≤ 140737488355328 := by rw [hY]; simp; omega
 have HA : Hid (∀ W, Calls Tryz.prog 111 #[.slice none 0 0, .int .i64 n] W (Laid W ES)) := fun W => by rw [hES]; exact appI_ none [] 0 0 n W rfl (bytesIn_nil _ _) (fun _ => rfl) hn.1 hn.2 (by simp)
 have HY : Hid (∀ (v' : Value) (W : World), Own W N v' (xs ++ [1]) → Own W N v' YS) := fun v' W h => by rw [hY]; exact h
 have HZ : Hid (∀ (v' : Value) (W : World), Own W N v' (YS ++ ES) → Own W N v' ZS) := fun v' W h => by rw [hZ]; rw [hY, hES, List.append_assoc] at h; exact h
 have hal : Below w.heap.size w (w.alloc (.cells #[.int .i64 1, .int .i64 n, .string t, .bool b] 73)) := (Below.refl _ _).alloc (Nat.le_refl _) _
 have HO := Lib.hid (hown.on hal)
 have HB := Lib.hid (hal.mono hN)
 have HNE := Lib.hid (hown.far (B := w.heap.size) (Nat.le_refl _))
 have HP := Lib.hid (in4_new w 1 n t b 73)
 obtain ⟨p0, p1, p2, p3⟩ := HP.out
 have HN := Lib.hid hN
 rw [← hZ]
 clear hown hal hN hZ hY hES
 go_enter Tryz.func76, Tryz.ntmps76
 go_wp2_with (first
  | (at_builtin; refine wpList_append_bytes _ rfl _ _ rfl N _ xs [1] rfl (HO.out.on (by first | exact ((Below.refl _ _).alloc (Nat.le_refl _) _).drew | exact (Below.refl _ _).drew.alloc (Nat.le_refl _) _ | exact (Below.refl _ _).alloc (Nat.le_refl _) _)) (some ⟨_, 0, none⟩) 1 1 rfl rfl (fun h => by cases h) (one_at _ _ (by simp) 1) (by simp; omega) (Nat.le_trans HN.out (Nat.le_trans HB.out.size (by simp))) ?_
     intro v' w2 hown hg
     have HO2 := Lib.hid (HY.out _ _ hown)
     have HS := Lib.hid (far4 HP.out (by first | exact ((Below.refl _ _).alloc (Nat.le_refl _) _).drew | exact (Below.refl _ _).drew.alloc (Nat.le_refl _) _ | exact (Below.refl _ _).alloc (Nat.le_refl _) _) hg HNE.out)
     obtain ⟨s0, s1, s2, s3⟩ := HS.out
     have HB2 := Lib.hid (below_grow HN.out (below_stepN HN.out HB.out (by first | exact ((Below.refl _ _).alloc (Nat.le_refl _) _).drew | exact (Below.refl _ _).drew.alloc (Nat.le_refl _) _ | exact (Below.refl _ _).alloc (Nat.le_refl _) _)) (HO.out.on (by first | exact ((Below.refl _ _).alloc (Nat.le_refl _) _).drew | exact (Below.refl _ _).drew.alloc (Nat.le_refl _) _ | exact (Below.refl _ _).alloc (Nat.le_refl _) _)) hg)
     clear hown hg HO)
  | fail)
 refine (HA.out _).mono ?_
 rintro e w3 ⟨g, c3, rfl, ho3, hb3⟩
 have HI3 := Lib.hid ho3.cells.2.1
 have HO3 := Lib.hid (HO2.out.on hb3)
 have HB3 := Lib.hid (below_stepN HN.out HB2.out hb3)
 clear ho3 hb3 HO2 HB2 HB HA HY HS HP HNE s0 s1 s2 s3 p0 p1 p2 p3
 generalize hm : ES.length = m at *
 go_wp2_with (first
  | (at_builtin; refine wpList_append_bytes _ rfl _ _ rfl N _ YS ES rfl HO3.out (some ⟨g, 0, none⟩) m c3 rfl hm (fun h => by cases h) HI3.out (by omega) (Nat.le_trans HN.out HB3.out.size) ?_
     intro v4 w4 hown hg
     have HO4 := Lib.hid (HZ.out _ _ hown)
     have HB4 := Lib.hid (below_grow HN.out HB3.out HO3.out hg)
     clear hown hg HO3)
  | fail)
 go_ret
 exact ⟨_, rfl, HO4.out, HB4.out⟩
set_option maxRecDepth 100000 in
set_option maxHeartbeats 1000000 in
theorem rlay_text (N : Nat) (n : Int) (t : ByteArray) (b : Bool) (v : Value) (xs : List Nat) (w : World) (hN : N ≤ w.heap.size) (ht : t.size ≤ 4096) (hl : xs.length + 5000 ≤ 140737488355328) (hown : Own w N v xs) :
 Calls Tryz.prog 76 #[v, .agg #[.int .i64 2, .int .i64 n, .string t, .bool b]] w fun e w' => ∃ v', e = .returned v' ∧ Own w' N v' (xs ++ layV ⟨2, n, t, b⟩) ∧ Below N w w' := by
 obtain ⟨ZS, hZ⟩ : ∃ ZS, ZS = xs ++ layV ⟨2, n, t, b⟩ := ⟨_, rfl⟩
 obtain ⟨YS, hY⟩ : ∃ YS, YS = xs ++ [1] := ⟨_, rfl⟩
 obtain ⟨ES, hES⟩ : ∃ ES, ES = enc t.size ++ sb t := ⟨_, rfl⟩
 have hel : ES.length ≤ 4110 := by have := enc_le10 t.size (by omega); rw [hES, List.length_append, sb_length]; omega
 have hln : YS.length + ES.length ≤ 140737488355328 := by rw [hY]; simp; omega
 have HA : Hid (∀ W, Calls Tryz.prog 112 #[.slice none 0 0, .string t] W (Laid W ES)) := fun W => by rw [hES]; exact appT_ none [] 0 0 t W rfl (bytesIn_nil _ _) (fun _ => rfl) (by simp; omega)
 have HY : Hid (∀ (v' : Value) (W : World), Own W N v' (xs ++ [1]) → Own W N v' YS) := fun v' W h => by rw [hY]; exact h
 have HZ : Hid (∀ (v' : Value) (W : World), Own W N v' (YS ++ ES) → Own W N v' ZS) := fun v' W h => by rw [hZ]; rw [hY, hES, List.append_assoc] at h; exact h
 have hal : Below w.heap.size w (w.alloc (.cells #[.int .i64 2, .int .i64 n, .string t, .bool b] 73)) := (Below.refl _ _).alloc (Nat.le_refl _) _
 have HO := Lib.hid (hown.on hal)
 have HB := Lib.hid (hal.mono hN)
 have HNE := Lib.hid (hown.far (B := w.heap.size) (Nat.le_refl _))
 have HP := Lib.hid (in4_new w 2 n t b 73)
 obtain ⟨p0, p1, p2, p3⟩ := HP.out
 have HN := Lib.hid hN
 rw [← hZ]
 clear hown hal hN hZ hY hES
 go_enter Tryz.func76, Tryz.ntmps76
 go_wp2_with (first
  | (at_builtin; refine wpList_append_bytes _ rfl _ _ rfl N _ xs [1] rfl (HO.out.on (by first | exact ((Below.refl _ _).alloc (Nat.le_refl _) _).drew | exact (Below.refl _ _).drew.alloc (Nat.le_refl _) _ | exact (Below.refl _ _).alloc (Nat.le_refl _) _)) (some ⟨_, 0, none⟩) 1 1 rfl rfl (fun h => by cases h) (one_at _ _ (by simp) 1) (by simp; omega) (Nat.le_trans HN.out (Nat.le_trans HB.out.size (by simp))) ?_
     intro v' w2 hown hg
     have HO2 := Lib.hid (HY.out _ _ hown)
     have HS := Lib.hid (far4 HP.out (by first | exact ((Below.refl _ _).alloc (Nat.le_refl _) _).drew | exact (Below.refl _ _).drew.alloc (Nat.le_refl _) _ | exact (Below.refl _ _).alloc (Nat.le_refl _) _) hg HNE.out)
     obtain ⟨s0, s1, s2, s3⟩ := HS.out
     have HB2 := Lib.hid (below_grow HN.out (below_stepN HN.out HB.out (by first | exact ((Below.refl _ _).alloc (Nat.le_refl _) _).drew | exact (Below.refl _ _).drew.alloc (Nat.le_refl _) _ | exact (Below.refl _ _).alloc (Nat.le_refl _) _)) (HO.out.on (by first | exact ((Below.refl _ _).alloc (Nat.le_refl _) _).drew | exact (Below.refl _ _).drew.alloc (Nat.le_refl _) _ | exact (Below.refl _ _).alloc (Nat.le_refl _) _)) hg)
     clear hown hg HO)
  | fail)
 refine (HA.out _).mono ?_
 rintro e w3 ⟨g, c3, rfl, ho3, hb3⟩
 have HI3 := Lib.hid ho3.cells.2.1
 have HO3 := Lib.hid (HO2.out.on hb3)
 have HB3 := Lib.hid (below_stepN HN.out HB2.out hb3)
 clear ho3 hb3 HO2 HB2 HB HA HY HS HP HNE s0 s1 s2 s3 p0 p1 p2 p3
 generalize hm : ES.length = m at *
 go_wp2_with (first
  | (at_builtin; refine wpList_append_bytes _ rfl _ _ rfl N _ YS ES rfl HO3.out (some ⟨g, 0, none⟩) m c3 rfl hm (fun h => by cases h) HI3.out (by omega) (Nat.le_trans HN.out HB3.out.size) ?_
     intro v4 w4 hown hg
     have HO4 := Lib.hid (HZ.out _ _ hown)
     have HB4 := Lib.hid (below_grow HN.out HB3.out HO3.out hg)
     clear hown hg HO3)
  | fail)
 go_ret
 exact ⟨_, rfl, HO4.out, HB4.out⟩
set_option maxRecDepth 100000 in
set_option maxHeartbeats 1000000 in
theorem rlay_true (N : Nat) (n : Int) (t : ByteArray) (v : Value) (xs : List Nat) (w : World) (hN : N ≤ w.heap.size) (hl : xs.length + 5000 ≤ 140737488355328) (hown : Own w N v xs) :
 Calls Tryz.prog 76 #[v, .agg #[.int .i64 3, .int .i64 n, .string t, .bool true]] w fun e w' => ∃ v', e = .returned v' ∧ Own w' N v' (xs ++ layV ⟨3, n, t, true⟩) ∧ Below N w w' := by
 obtain ⟨ZS, hZ⟩ : ∃ ZS, ZS = xs ++ layV ⟨3, n, t, true⟩ := ⟨_, rfl⟩
 obtain ⟨YS, hY⟩ : ∃ YS, YS = xs ++ [1] := ⟨_, rfl⟩
 have hln : YS.length + 1 ≤ 140737488355328 := by rw [hY]; simp; omega
 have HA : Hid (∀ W, Calls Tryz.prog 113 #[.bool true] W fun e w' => e = .returned (.int .u8 ((1 : Nat) : Int)) ∧ w' = W) := fun W => truth_ true W
 have HY : Hid (∀ (v' : Value) (W : World), Own W N v' (xs ++ [1]) → Own W N v' YS) := fun v' W h => by rw [hY]; exact h
 have HZ : Hid (∀ (v' : Value) (W : World), Own W N v' (YS ++ [1]) → Own W N v' ZS) := fun v' W h => by rw [hZ]; rw [hY, List.append_assoc] at h; exact h
 have hal : Below w.heap.size w (w.alloc (.cells #[.int .i64 3, .int .i64 n, .string t, .bool true] 73)) := (Below.refl _ _).alloc (Nat.le_refl _) _
 have HO := Lib.hid (hown.on hal)
 have HB := Lib.hid (hal.mono hN)
 have HNE := Lib.hid (hown.far (B := w.heap.size) (Nat.le_refl _))
 have HP := Lib.hid (in4_new w 3 n t true 73)
 obtain ⟨p0, p1, p2, p3⟩ := HP.out
 have HN := Lib.hid hN
 rw [← hZ]
 clear hown hal hN hZ hY
 go_enter Tryz.func76, Tryz.ntmps76
 go_wp2_with (first
  | (at_builtin; refine wpList_append_bytes _ rfl _ _ rfl N _ xs [1] rfl (HO.out.on (by first | exact ((Below.refl _ _).alloc (Nat.le_refl _) _).drew | exact (Below.refl _ _).drew.alloc (Nat.le_refl _) _ | exact (Below.refl _ _).alloc (Nat.le_refl _) _)) (some ⟨_, 0, none⟩) 1 1 rfl rfl (fun h => by cases h) (one_at _ _ (by simp) 1) (by simp; omega) (Nat.le_trans HN.out (Nat.le_trans HB.out.size (by simp))) ?_
     intro v' w2 hown hg
     have HO2 := Lib.hid (HY.out _ _ hown)
     have HS := Lib.hid (far4 HP.out (by first | exact ((Below.refl _ _).alloc (Nat.le_refl _) _).drew | exact (Below.refl _ _).drew.alloc (Nat.le_refl _) _ | exact (Below.refl _ _).alloc (Nat.le_refl _) _) hg HNE.out)
     obtain ⟨s0, s1, s2, s3⟩ := HS.out
     have HB2 := Lib.hid (below_grow HN.out (below_stepN HN.out HB.out (by first | exact ((Below.refl _ _).alloc (Nat.le_refl _) _).drew | exact (Below.refl _ _).drew.alloc (Nat.le_refl _) _ | exact (Below.refl _ _).alloc (Nat.le_refl _) _)) (HO.out.on (by first | exact ((Below.refl _ _).alloc (Nat.le_refl _) _).drew | exact (Below.refl _ _).drew.alloc (Nat.le_refl _) _ | exact (Below.refl _ _).alloc (Nat.le_refl _) _)) hg)
     clear hown hg HO)
  | fail)
 refine (HA.out _).mono ?_
 rintro e w3 ⟨rfl, rfl⟩
 have HO3 := Lib.hid (HO2.out.on ((Below.refl w3.heap.size w3).alloc (Nat.le_refl _) (.cells #[.int .u8 ((1 : Nat) : Int)] 5)))
 have HB3 := Lib.hid (below_stepN HN.out HB2.out ((Below.refl w3.heap.size w3).alloc (Nat.le_refl _) (.cells #[.int .u8 ((1 : Nat) : Int)] 5)))
 have HI3 := Lib.hid (one_new w3 _ 1 rfl)
 clear HO2 HB2 HB HA HY HS HP HNE s0 s1 s2 s3 p0 p1 p2 p3
 go_wp2_with (first
  | (at_builtin; refine wpList_append_bytes _ rfl _ _ rfl N _ YS [1] rfl HO3.out (some ⟨w3.heap.size, 0, none⟩) 1 1 rfl rfl (fun h => by cases h) HI3.out hln (Nat.le_trans HN.out HB3.out.size) ?_
     intro v4 w4 hown hg
     have HO4 := Lib.hid (HZ.out _ _ hown)
     have HB4 := Lib.hid (below_grow HN.out HB3.out HO3.out hg)
     clear hown hg HO3)
  | fail)
 go_ret
 exact ⟨_, rfl, HO4.out, HB4.out⟩
set_option maxRecDepth 100000 in
set_option maxHeartbeats 1000000 in
theorem rlay_false (N : Nat) (n : Int) (t : ByteArray) (v : Value) (xs : List Nat) (w : World) (hN : N ≤ w.heap.size) (hl : xs.length + 5000 ≤ 140737488355328) (hown : Own w N v xs) :
 Calls Tryz.prog 76 #[v, .agg #[.int .i64 3, .int .i64 n, .string t, .bool false]] w fun e w' => ∃ v', e = .returned v' ∧ Own w' N v' (xs ++ layV ⟨3, n, t, false⟩) ∧ Below N w w' := by
 obtain ⟨ZS, hZ⟩ : ∃ ZS, ZS = xs ++ layV ⟨3, n, t, false⟩ := ⟨_, rfl⟩
 obtain ⟨YS, hY⟩ : ∃ YS, YS = xs ++ [1] := ⟨_, rfl⟩
 have hln : YS.length + 1 ≤ 140737488355328 := by rw [hY]; simp; omega
 have HA : Hid (∀ W, Calls Tryz.prog 113 #[.bool false] W fun e w' => e = .returned (.int .u8 ((0 : Nat) : Int)) ∧ w' = W) := fun W => truth_ false W
 have HY : Hid (∀ (v' : Value) (W : World), Own W N v' (xs ++ [1]) → Own W N v' YS) := fun v' W h => by rw [hY]; exact h
 have HZ : Hid (∀ (v' : Value) (W : World), Own W N v' (YS ++ [0]) → Own W N v' ZS) := fun v' W h => by rw [hZ]; rw [hY, List.append_assoc] at h; exact h
 have hal : Below w.heap.size w (w.alloc (.cells #[.int .i64 3, .int .i64 n, .string t, .bool false] 73)) := (Below.refl _ _).alloc (Nat.le_refl _) _
 have HO := Lib.hid (hown.on hal)
 have HB := Lib.hid (hal.mono hN)
 have HNE := Lib.hid (hown.far (B := w.heap.size) (Nat.le_refl _))
 have HP := Lib.hid (in4_new w 3 n t false 73)
 obtain ⟨p0, p1, p2, p3⟩ := HP.out
 have HN := Lib.hid hN
 rw [← hZ]
 clear hown hal hN hZ hY
 go_enter Tryz.func76, Tryz.ntmps76
 go_wp2_with (first
  | (at_builtin; refine wpList_append_bytes _ rfl _ _ rfl N _ xs [1] rfl (HO.out.on (by first | exact ((Below.refl _ _).alloc (Nat.le_refl _) _).drew | exact (Below.refl _ _).drew.alloc (Nat.le_refl _) _ | exact (Below.refl _ _).alloc (Nat.le_refl _) _)) (some ⟨_, 0, none⟩) 1 1 rfl rfl (fun h => by cases h) (one_at _ _ (by simp) 1) (by simp; omega) (Nat.le_trans HN.out (Nat.le_trans HB.out.size (by simp))) ?_
     intro v' w2 hown hg
     have HO2 := Lib.hid (HY.out _ _ hown)
     have HS := Lib.hid (far4 HP.out (by first | exact ((Below.refl _ _).alloc (Nat.le_refl _) _).drew | exact (Below.refl _ _).drew.alloc (Nat.le_refl _) _ | exact (Below.refl _ _).alloc (Nat.le_refl _) _) hg HNE.out)
     obtain ⟨s0, s1, s2, s3⟩ := HS.out
     have HB2 := Lib.hid (below_grow HN.out (below_stepN HN.out HB.out (by first | exact ((Below.refl _ _).alloc (Nat.le_refl _) _).drew | exact (Below.refl _ _).drew.alloc (Nat.le_refl _) _ | exact (Below.refl _ _).alloc (Nat.le_refl _) _)) (HO.out.on (by first | exact ((Below.refl _ _).alloc (Nat.le_refl _) _).drew | exact (Below.refl _ _).drew.alloc (Nat.le_refl _) _ | exact (Below.refl _ _).alloc (Nat.le_refl _) _)) hg)
     clear hown hg HO)
  | fail)
 refine (HA.out _).mono ?_
 rintro e w3 ⟨rfl, rfl⟩
 have HO3 := Lib.hid (HO2.out.on ((Below.refl w3.heap.size w3).alloc (Nat.le_refl _) (.cells #[.int .u8 ((0 : Nat) : Int)] 5)))
 have HB3 := Lib.hid (below_stepN HN.out HB2.out ((Below.refl w3.heap.size w3).alloc (Nat.le_refl _) (.cells #[.int .u8 ((0 : Nat) : Int)] 5)))
 have HI3 := Lib.hid (one_new w3 _ 0 rfl)
 clear HO2 HB2 HB HA HY HS HP HNE s0 s1 s2 s3 p0 p1 p2 p3
 go_wp2_with (first
  | (at_builtin; refine wpList_append_bytes _ rfl _ _ rfl N _ YS [0] rfl HO3.out (some ⟨w3.heap.size, 0, none⟩) 1 1 rfl rfl (fun h => by cases h) HI3.out hln (Nat.le_trans HN.out HB3.out.size) ?_
     intro v4 w4 hown hg
     have HO4 := Lib.hid (HZ.out _ _ hown)
     have HB4 := Lib.hid (below_grow HN.out HB3.out HO3.out hg)
     clear hown hg HO3)
  | fail)
 go_ret
 exact ⟨_, rfl, HO4.out, HB4.out⟩
theorem rlay_ (N : Nat) (k n : Int) (t : ByteArray) (b : Bool) (v : Value) (xs : List Nat) (w : World) (hN : N ≤ w.heap.size) (hv : validN ⟨k, n, t, b⟩ = 0) (hn : inI n) (hl : xs.length + 5000 ≤ 140737488355328) (hown : Own w N v xs) :
 Calls Tryz.prog 76 #[v, .agg #[.int .i64 k, .int .i64 n, .string t, .bool b]] w fun e w' => ∃ v', e = .returned v' ∧ Own w' N v' (xs ++ layV ⟨k, n, t, b⟩) ∧ Below N w w' := by
 have hk := valid_kind (fit_of_valid hv)
 simp only at hk
 rcases hk with rfl | rfl | rfl | rfl
 · exact rlay_null N n t b v xs w hN hl hown
 · exact rlay_int N n t b v xs w hN hn hl hown
 · exact rlay_text N n t b v xs w hN (size_of_valid hv) hl hown
 · cases b
   · exact rlay_false N n t v xs w hN hl hown
   · exact rlay_true N n t v xs w hN hl hown
end Go.Proofs.YtalmanfjiblhcaaGreat.Rw
namespace Go.Proofs.YtalmanfjiblhcaaGreat.Rw
open Go.RowKit Go.Sort
def EncTo (w : World) (cs : List Col) (vs : List Val) (e : Ending) (w' : World) : Prop :=
 ∃ v, e = .returned (.tuple #[v, errV 77 (chkR cs vs)]) ∧ Own w' w.heap.size v (if chkR cs vs = 0 then rowB vs else []) ∧ Below w.heap.size w w'
set_option maxRecDepth 100000 in
set_option maxHeartbeats 1000000 in
theorem rencode_ (nm : ByteArray) (at_ : Option Addr) (ct : Nat) (cs : List Col) (a : Option Addr) (c : Nat) (vs : List Val) (w : World) (hc : ColsIn w at_ cs) (h : ValsIn w a vs) (hw : ∀ x ∈ vs, inI x.n) (hcl : cs.length ≤ 1048576) (hwt : wtV vs ≤ 1048576) :
 Calls Tryz.prog 46 #[.agg #[.string nm, .slice at_ cs.length ct], .slice a vs.length c] w (EncTo w cs vs) := by
 have hvl : vs.length ≤ 1048576 := Nat.le_trans (wtV_len vs) hwt
 have HK : Hid (∀ W, Below w.heap.size w W → Calls Tryz.prog 75 #[.agg #[.string nm, .slice at_ cs.length ct], .slice a vs.length c] W fun e w' => e = .returned (errV 77 (chkR cs vs)) ∧ Below W.heap.size W w') := fun W hW => check_ nm at_ ct cs a c vs W (hc.on hW) (h.on hW) (by omega) (by omega)
 have HI := Lib.hid h
 have HLn := Lib.hid (rowB_lim hw hwt)
 have HW := Lib.hid hw
 obtain ⟨L, hL⟩ : ∃ L, vs.length = L := ⟨_, rfl⟩
 have HL := Lib.hid hL
 rw [hL] at hvl HK
 rw [hL]
 generalize cs.length = C at *
 unfold EncTo
 clear h hw hc
 by_cases h0 : chkR cs vs = 0
 · have HV := Lib.hid (chkR_valid h0)
   rw [if_pos h0]
   have h0' : errV 77 (chkR cs vs) = .nilIface := by rw [errV, if_pos h0]
   rw [h0'] at HK
   rw [h0']
   clear h0 h0' hL
   obtain ⟨t0, t1⟩ := inT_new w nm at_ C ct 44
   have HB0 : Hid (Below w.heap.size w (w.alloc (.cells #[.string nm, .slice at_ C ct] 44))) := below_alloc1 _ _
   go_enter Tryz.func46, Tryz.ntmps46
   go_wp2_with fail
   refine (HK.out _ HB0.out).mono ?_
   rintro e w1 ⟨rfl, hb1⟩
   have HB1 := Lib.hid (below_step HB0.out hb1)
   clear hb1 HB0 HK t0 t1
   go_wp2_with fail
   go_loopw [7, 18] (fun ov iv wr => ∃ i : Nat, i ≤ L ∧ iv = .int .i64 i ∧ Hid (Own wr w.heap.size ov (rowB (vs.take i))) ∧ Hid (Below w.heap.size w wr)) (fun _ iv _ => L - (intOf iv).toNat)
   case atStart => exact ⟨0, Nat.zero_le _, rfl, own_nil _ _, HB1⟩
   case round =>
    clear HB1
    obtain ⟨i, hi, rfl, HO, HBx⟩ := hrel
    by_cases hjl : i < L
    · have hjl2 : (i : Int) < (L : Int) := by omega
      have hj2 : i < vs.length := by rw [HL.out]; exact hjl
      obtain ⟨b, o, rfl, k, n, t, bb, hvi, hin⟩ := ValsIn.get (HI.out.on HBx.out) i hj2
      obtain ⟨p0, p1, p2, p3⟩ := hin
      have hv0 : validN ⟨k, n, t, bb⟩ = 0 := by rw [← hvi]; exact HV.out _ (List.getElem_mem hj2)
      have hn0 : inI n := by have := HW.out vs[i] (List.getElem_mem hj2); rw [hvi] at this; exact this
      obtain ⟨XS, hXS⟩ : ∃ XS, XS = rowB (vs.take i) := ⟨_, rfl⟩
      have hxl : XS.length ≤ 3145728 := by rw [hXS]; exact HLn.out i
      rw [← hXS] at HO
      have HLY : Hid (∀ W, Below wr.heap.size wr W → Calls Tryz.prog 76 #[_, .agg #[.int .i64 k, .int .i64 n, .string t, .bool bb]] W fun e w' => ∃ v', e = .returned v' ∧ Own w' w.heap.size v' (rowB (vs.take (i + 1))) ∧ Below w.heap.size w w') := fun W hW =>
       (rlay_ w.heap.size k n t bb _ XS W (Nat.le_trans HBx.out.size hW.size) hv0 hn0 (by omega) (HO.out.on hW)).mono fun e w' ⟨v', he, ho, hb⟩ => ⟨v', he, by rw [rowB_take hj2, ← hXS, hvi]; exact ho, (below_step HBx.out hW).trans hb⟩
      clear hvi hv0 hn0 hxl hXS HO
      go_wp2_with fail
      refine (HLY.out _ ((Below.refl _ _).alloc (Nat.le_refl _) _)).mono ?_
      rintro e w2 ⟨v1, rfl, ho1, hb1⟩
      have HO1 := Lib.hid ho1
      have HB1 := Lib.hid hb1
      clear ho1 hb1 HLY HBx p0 p1 p2 p3 hj2
      go_wp2_with fail
      go_roundw
      case rel => exact ⟨i + 1, by omega, by go_num, HO1, HB1⟩
      case measure => simp [intOf]; omega
    · obtain rfl : i = L := by omega
      have e1 : vs.take i = vs := List.take_of_length_le (by rw [HL.out]; exact Nat.le_refl _)
      rw [e1] at HO
      clear e1 HLn HI HW HV
      go_wp2_with fail
      exact bodyPost_ret (by simp [results, Tryz.results46, go_sem]) rfl ⟨_, rfl, HO.out, HBx.out⟩
 · rw [if_neg h0]
   obtain ⟨E, hE⟩ : ∃ E, chkR cs vs = E := ⟨_, rfl⟩
   have h0' : errV 77 (chkR cs vs) = .iface 77 (.int .i64 E) := by rw [errV, if_neg h0, hE]
   rw [h0'] at HK
   rw [h0']
   clear h0 h0' hL hE
   obtain ⟨t0, t1⟩ := inT_new w nm at_ C ct 44
   have HB0 : Hid (Below w.heap.size w (w.alloc (.cells #[.string nm, .slice at_ C ct] 44))) := below_alloc1 _ _
   go_enter Tryz.func46, Tryz.ntmps46
   go_wp2_with fail
   refine (HK.out _ HB0.out).mono ?_
   rintro e w1 ⟨rfl, hb1⟩
   have HB1 := Lib.hid (below_step HB0.out hb1)
   clear hb1 HB0 HK t0 t1
   go_wp2_with fail
   exact bodyPost_ret (v := .tuple #[.slice none 0 0, .iface 77 (.int .i64 E)]) (by simp [results, Tryz.results46, go_sem]) rfl ⟨_, rfl, own_nil _ _, HB1.out⟩
end Go.Proofs.YtalmanfjiblhcaaGreat.Rw
