/- The walk of row.Decode. -/
import Derived.Test.YtlldamgnfaikhaaDoorRwFirst
import Derived.Test.YtlldamgnfaikhaaDoorRwStep
import Derived.Test.YtlldamgnfaikhaaDoorRwCheck
namespace Go.Proofs.YtlldamgnfaikhaaDoor
open Go.RowKit Go.Sort

/-- What Decode tells. -/
def DecTo (w : World) (cs : List Col) (xs : List Nat) (e : Ending) (w' : World) : Prop :=
  ((∃ (l : List Val) (a : Option Addr) (c : Nat), IsRow cs xs l ∧ e = .returned (.tuple #[.slice a l.length c, .nilIface]) ∧ ValsIn w' a l) ∨ ((∀ l, ¬ IsRow cs xs l) ∧ e = .returned (.tuple #[.slice none 0 0, .iface 57 (.int .i64 3)]))) ∧ Below w.heap.size w w'
/-- What is left of the bytes. -/
def LeftAt (w : World) (n : Nat) (a : Option Addr) (l c : Nat) (r : List Nat) : Prop := r.length = l ∧ l ≤ c ∧ l ≤ n ∧ (∀ x ∈ r, x < 256) ∧ BytesIn w a r
set_option maxRecDepth 100000 in
set_option maxHeartbeats 2000000 in
theorem rdecode_ (nm : ByteArray) (at_ : Option Addr) (ct : Nat) (cs : List Col) (a : Option Addr) (c : Nat) (xs : List Nat) (w : World) (hc : ColsIn w at_ cs) (h : BytesIn w a xs) (hb : ∀ x ∈ xs, x < 256) (hcl : cs.length ≤ 1048576) (hlim : xs.length ≤ 9223372036854775) (hcap : xs.length ≤ c) :
    Calls Tryd.prog 9 #[.agg #[.string nm, .slice at_ cs.length ct], .slice a xs.length c] w (DecTo w cs xs) := by
  obtain ⟨C, hC⟩ : ∃ C, cs.length = C := ⟨_, rfl⟩
  have HC := Lib.hid hC
  have HJ := Lib.hid hc
  obtain ⟨n, hn⟩ : ∃ n, xs.length = n := ⟨_, rfl⟩
  have HL0 : Hid (LeftAt w n a n c xs) := ⟨hn, by omega, Nat.le_refl _, hb, h⟩
  rw [hC] at hcl
  rw [hC, hn]
  rw [hn] at hlim
  clear hc h hb hcap hn hC
  obtain ⟨t0, t1⟩ := inT_new w nm at_ C ct 24
  have HT := Lib.hid (inT_new w nm at_ C ct 24)
  have HB0 : Hid (Below w.heap.size w (w.alloc (.cells #[.string nm, .slice at_ C ct] 24))) := below_alloc1 _ _
  go_enter Tryd.func9, Tryd.ntmps9
  go_wp2_with fail
  obtain ⟨B, hB⟩ : ∃ B, w.heap.size = B := ⟨_, rfl⟩
  have HBe := Lib.hid hB
  rw [hB] at HT
  generalize w.alloc (.cells #[.string nm, .slice at_ C ct] 24) = V at *
  have HJ1 := Lib.hid (HJ.out.on HB0.out)
  have HL1 : Hid (LeftAt V n a n c xs) := ⟨HL0.out.1, HL0.out.2.1, HL0.out.2.2.1, HL0.out.2.2.2.1, HL0.out.2.2.2.2.on HB0.out⟩
  clear HJ HL0 t0 t1 hB
  go_loopw [1, 6, 15] (fun bv lv iv wr => ∃ (i : Nat) (r : List Nat) (p : List Val) (ar : Option Addr) (rl cr : Nat), i ≤ C ∧ iv = .int .i64 i ∧ bv = .slice ar rl cr ∧ Hid (LeftAt V n ar rl cr r) ∧ Hid (DecI cs xs i p r) ∧ Hid (OwnV wr V.heap.size lv p) ∧ Hid (Below V.heap.size V wr)) (fun _ _ iv _ => C - (intOf iv).toNat)
  case atStart => exact ⟨0, xs, [], a, n, c, Nat.zero_le _, rfl, rfl, HL1, dec_start _ _, ownV_nil _ _, Below.refl _ _⟩
  case round =>
    clear HL1
    obtain ⟨i, r, p, ar, rl, cr, hi, rfl, rfl, HL, HD, HO, HBw⟩ := hrel
    by_cases hlt : i < C
    · have hlt2 : (i : Int) < (C : Int) := by omega
      have hi1 : i < cs.length := by rw [HC.out]; exact hlt
      obtain ⟨b1, o1, rfl, cn, kc, ky, nl, hci, q0, q1, q2, q3⟩ := ColsIn.get (HJ1.out.on HBw.out) i hi1
      obtain ⟨hr1, hr2, hr3, hr4, hr5⟩ := HL.out
      have HF0 : Hid (∀ W, Below wr.heap.size wr W → Calls Tryd.prog 21 #[.int .i64 kc, .slice ar rl cr] W fun e w' => e = .returned (.tuple #[agV (firstR kc r).1, .int .i64 (firstR kc r).2.1, .bool (firstR kc r).2.2]) ∧ Below W.heap.size W w') := fun W hW => by
        have := first_ kc ar r cr W ((hr5.on HBw.out).on hW) hr4 (by omega) (by omega)
        rw [hr1] at this
        exact this
      have hfk : firstR cs[i].k r = firstR kc r := by rw [hci]
      obtain ⟨vv, m, ok, hF⟩ : ∃ vv m ok, firstR kc r = (vv, m, ok) := ⟨_, _, _, rfl⟩
      have HFK : Hid (firstR cs[i].k r = (vv, m, ok)) := hfk.trans hF
      rw [hF] at HF0
      obtain ⟨k, n1, t, bb⟩ := vv
      have HF : Hid (∀ W, Below wr.heap.size wr W → Calls Tryd.prog 21 #[.int .i64 kc, .slice ar rl cr] W fun e w' => e = .returned (.tuple #[.agg #[.int .i64 k, .int .i64 n1, .string t, .bool bb], .int .i64 m, .bool ok]) ∧ Below W.heap.size W w') := HF0
      clear HF0 hF hfk hci hr1 hr3 hr4 hr5
      have HBa := Lib.hid (below_alloc1 wr (.cells #[.string cn, .int .i64 kc, .bool ky, .bool nl] 45))
      obtain ⟨r0, r1, r2, r3⟩ := inC_new wr ⟨cn, kc, ky, nl⟩ 45
      simp only at r0 r1 r2 r3
      cases ok with
      | false =>
        have HX : Hid (∀ l, ¬ IsRow cs xs l) := dec_bad hi1 HD.out (by rw [HFK.out])
        clear HFK HD HL hr2
        go_wp2_with fail
        refine (HF.out _ HBa.out).mono ?_
        rintro e w1 ⟨rfl, hb1⟩
        have HB1 := Lib.hid (below_step (below_step HBw.out (below_step HBa.out hb1)) (below_alloc1 w1 (.cells #[.int .i64 k, .int .i64 n1, .string t, .bool bb] 47)))
        clear hb1 HF HBa HBw q0 q1 q2 q3 r0 r1 r2 r3 HO
        go_wp2_with fail
        exact bodyPost_ret (v := .tuple #[.slice none 0 0, .iface 57 (.int .i64 3)]) (by simp [results, Tryd.results9, go_sem]) rfl ⟨.inr ⟨HX.out, rfl⟩, below_step HB0.out HB1.out⟩
      | true =>
        obtain ⟨hl1, hl2, hl3, hl4, hl5⟩ := HL.out
        have hD2 := dec_next hi1 HD.out hl4 HFK.out
        obtain ⟨_, hml, _⟩ := first_back hl4 HFK.out
        have hrp : 0 < r.length := by
          have := HFK.out
          unfold firstR at this
          rcases Nat.eq_zero_or_pos r.length with h0 | h0
          · rw [if_pos (.inl h0)] at this; simp at this
          · exact h0
        obtain ⟨b0, o0, rfl, _⟩ := hl5 0 hrp
        have HD2 := Lib.hid hD2
        have hroom : (p.length + [(⟨k, n1, t, bb⟩ : Val)].length) * 40 ≤ 140737488355328 := by rw [HD.out.1]; simp; omega
        have hm1 : (m : Int) ≤ (rl : Int) := by omega
        have hm2 : (m : Int) ≤ (cr : Int) := by omega
        have HL2 : Hid (LeftAt V n (if cr = m then (some ⟨b0, o0, none⟩ : Option Addr) else some ⟨b0, o0 + m, none⟩) (rl - m) (cr - m) (r.drop m)) := ⟨by rw [List.length_drop, hl1], by omega, by omega, fun x hx => hl4 x (List.mem_of_mem_drop hx), hl5.cutAt (by omega)⟩
        clear HFK HD HL hD2 hml hl1 hl3 hl4 hl5 hrp
        go_wp2_with fail
        refine (HF.out _ HBa.out).mono ?_
        rintro e w1 ⟨rfl, hb1⟩
        have hwv := below_step (below_step HBa.out hb1) (below_alloc1 w1 (.cells #[.int .i64 k, .int .i64 n1, .string t, .bool bb] 47))
        have HI4 := Lib.hid (in4_new w1 k n1 t bb 47)
        have HWV := Lib.hid hwv
        have HNE : Hid (some w1.heap.size ≠ Value.ownBlock _) := fun e => by
          have := HO.out.lt w1.heap.size e.symm
          have := (below_step HBa.out hb1).size
          omega
        have hsz : w1.heap.size < (w1.alloc (.cells #[.int .i64 k, .int .i64 n1, .string t, .bool bb] 47)).heap.size := blk_lt (heap_alloc_new w1 _)
        clear hb1 HF HBa q0 q1 q2 q3 r0 r1 r2 r3 hwv
        go_wp2_with fail
        have HO9 := Lib.hid (HO.out.on HWV.out)
        have HB9 := Lib.hid (below_step HBw.out HWV.out)
        clear HO HBw
        generalize w1.alloc (.cells #[.int .i64 k, .int .i64 n1, .string t, .bool bb] 47) = W9 at *
        generalize w1.heap.size = B9 at *
        have HAP : Hid (∀ Wc w2, Below W9.heap.size W9 Wc → Wc.grownBy w2 u6.ownBlock → ((w2.cell? ⟨B9, 0, none⟩ = some (.int .i64 k) ∧ w2.cell? ⟨B9, 1, none⟩ = some (.int .i64 n1) ∧ w2.cell? ⟨B9, 2, none⟩ = some (.string t) ∧ w2.cell? ⟨B9, 3, none⟩ = some (.bool bb)) ∧ Below V.heap.size V w2)) := fun Wc w2 hWc hg => by
          obtain ⟨c0, c1, c2, c3⟩ := HI4.out.on hWc
          have hl : B9 < Wc.heap.size := Nat.lt_of_lt_of_le hsz hWc.size
          refine ⟨⟨?_, ?_, ?_, ?_⟩, ?_⟩
          · exact (hg.cell_far ⟨B9, 0, none⟩ hl HNE.out).trans c0
          · exact (hg.cell_far ⟨B9, 1, none⟩ hl HNE.out).trans c1
          · exact (hg.cell_far ⟨B9, 2, none⟩ hl HNE.out).trans c2
          · exact (hg.cell_far ⟨B9, 3, none⟩ hl HNE.out).trans c3
          · exact (below_step HB9.out hWc).grown hg (below_step HB9.out hWc).size (fun q hq => ((HO9.out.on hWc).lt q hq).1)
        have HK : Hid (∀ Wc, Below W9.heap.size W9 Wc → ((Wc.cell? ⟨B9, 0, none⟩ = some (.int .i64 k) ∧ Wc.cell? ⟨B9, 1, none⟩ = some (.int .i64 n1) ∧ Wc.cell? ⟨B9, 2, none⟩ = some (.string t) ∧ Wc.cell? ⟨B9, 3, none⟩ = some (.bool bb)) ∧ Below V.heap.size V Wc)) := fun Wc hWc => ⟨HI4.out.on hWc, below_step HB9.out hWc⟩
        clear hsz
        refine wp_region_noPanic ?_
        go_region_held_law (fun W' => (W'.cell? ⟨B9, 0, none⟩ = some (.int .i64 k) ∧ W'.cell? ⟨B9, 1, none⟩ = some (.int .i64 n1) ∧ W'.cell? ⟨B9, 2, none⟩ = some (.string t) ∧ W'.cell? ⟨B9, 3, none⟩ = some (.bool bb)) ∧ Below V.heap.size V W')
          (first | assumption | exact HK.out _ (Below.refl _ _) | exact HK.out _ (below_drew _) | exact HK.out _ (below_alloc1 _ _) | exact HK.out _ ((Below.refl _ _).drew.alloc (Nat.le_refl _) _) | exact HK.out _ ((Below.refl _ _).alloc (Nat.le_refl _) _).drew)
          (first
            | (refine step_append_vals _ rfl _ _ rfl V.heap.size _ p [⟨k, n1, t, bb⟩] rfl (HO9.out.on (by first | exact (Below.refl _ _).drew.alloc (Nat.le_refl _) _ | exact ((Below.refl _ _).alloc (Nat.le_refl _) _).drew | exact below_alloc1 _ _)) _ 0 1 1 rfl rfl (one_inV (in4_new _ k n1 t bb _)) hroom (by have := HB9.out.size; simp; omega) ?_
               intro v' w2 hown hgrow hblk
               have hS2 := HAP.out _ w2 (by first | exact (Below.refl _ _).drew.alloc (Nat.le_refl _) _ | exact ((Below.refl _ _).alloc (Nat.le_refl _) _).drew | exact below_alloc1 _ _) hgrow
               have HO3 := Lib.hid hown
               clear hown hgrow hblk)
            | fail)
        refine NoPanic.normal ?_
        have HB3 := Lib.hid hS2.2
        clear hS2
        go_wp2_with fail
        go_roundw
        case rel => exact ⟨i + 1, r.drop m, p ++ [⟨k, n1, t, bb⟩], _, _, _, by omega, by go_num, rfl, HL2, HD2, HO3, HB3⟩
        case measure => simp [intOf]; omega
    · obtain rfl : i = C := by omega
      obtain ⟨a', c', rfl, hvin, _⟩ := HO.out.vals
      have hpl := HD.out.1
      obtain ⟨hl1, hl2, hl3, hl4, hl5⟩ := HL.out
      obtain ⟨t0, t1⟩ := HT.out.on HBw.out
      have HBz := Lib.hid (below_step HB0.out HBw.out)
      rw [hpl]
      by_cases h0 : rl = 0
      · subst h0
        have hr0 : r = [] := List.eq_nil_of_length_eq_zero hl1
        subst hr0
        have HDc : Hid (DecI cs xs cs.length p []) := by rw [HC.out]; exact HD.out
        have HK : Hid (∀ W, Below wr.heap.size wr W → Calls Tryd.prog 16 #[.agg #[.string nm, .slice at_ i ct], .slice a' i c'] W fun e w' => e = .returned (errV 57 (chkR cs p)) ∧ Below W.heap.size W w') := fun W hW => by
          have := check_ nm at_ ct cs a' c' p W ((HJ1.out.on HBw.out).on hW) (hvin.on hW) (by rw [HC.out]; omega) (by rw [hpl]; omega)
          rw [HC.out, hpl] at this
          exact this
        have HPL := Lib.hid hpl
        have HVI := Lib.hid hvin
        rw [← HBe.out] at t0 t1
        clear hl1 hl2 hl3 hl4 hl5 hpl hvin HL HO HD HJ1
        by_cases hz : chkR cs p = 0
        · have h0' : errV 57 (chkR cs p) = .nilIface := by rw [errV, if_pos hz]
          rw [h0'] at HK
          have HR : Hid (IsRow cs xs p) := dec_ok HDc.out hz
          clear hz h0' HDc
          go_wp2_with fail
          refine (HK.out _ (Below.refl _ _)).mono ?_
          rintro e w1 ⟨rfl, hb1⟩
          have HB1 := Lib.hid hb1
          clear hb1 HK
          go_wp2_with fail
          exact bodyPost_ret (v := .tuple #[.slice a' i c', .nilIface]) (by simp [results, Tryd.results9, go_sem]) rfl ⟨.inl ⟨p, a', c', HR.out, by rw [HPL.out], HVI.out.on HB1.out⟩, below_step HBz.out HB1.out⟩
        · obtain ⟨E, hE⟩ : ∃ E, errV 57 (chkR cs p) = .iface 57 (.int .i64 E) := ⟨_, by rw [errV, if_neg hz]⟩
          rw [hE] at HK
          have HX : Hid (∀ l, ¬ IsRow cs xs l) := dec_chk HDc.out hz
          clear hz hE HDc
          go_wp2_with fail
          refine (HK.out _ (Below.refl _ _)).mono ?_
          rintro e w1 ⟨rfl, hb1⟩
          have HB1 := Lib.hid hb1
          clear hb1 HK
          go_wp2_with fail
          exact bodyPost_ret (v := .tuple #[.slice none 0 0, .iface 57 (.int .i64 3)]) (by simp [results, Tryd.results9, go_sem]) rfl ⟨.inr ⟨HX.out, rfl⟩, below_step HBz.out HB1.out⟩
      · have hpos : (0 : Int) < (rl : Int) := by omega
        have HX : Hid (∀ l, ¬ IsRow cs xs l) := dec_rest (p := p) (r := r) (by rw [HC.out]; exact HD.out) (fun e => by rw [e] at hl1; simp at hl1; omega)
        clear hl1 hl2 hl3 hl4 hl5 hpl hvin HL HO HD HJ1
        go_wp2_with fail
        exact bodyPost_ret (v := .tuple #[.slice none 0 0, .iface 57 (.int .i64 3)]) (by simp [results, Tryd.results9, go_sem]) rfl ⟨.inr ⟨HX.out, rfl⟩, HBz.out⟩
end Go.Proofs.YtlldamgnfaikhaaDoor
