/- The walk of the law HeapRuns. -/
import Derived.Test.YtnkdhipeklphaaaDoorHRef2
import Derived.Test.YtnkdhipeklphaaaDoorHAs
import Derived.Test.YtnkdhipeklphaaaDoorHActs
import Derived.Test.YtnkdhipeklphaaaDoorHQ3
import Derived.Deep.CutRange
import Derived.Deep.CutBlock
import Derived.Deep.RegionHeld3
import Derived.Deep.RegionWith
namespace Go.Proofs.YtnkdhipeklphaaaDoor
open Go.RowKit Go.Sort

/-- What stands at the loop's head. -/
def St (w : World) (i : Nat) (wq : World) (rv : Value) : Prop := ∃ r t mv v b S, Qu wq w.heap.size w.heap.size r t mv v r.length b S ∧ Lst wq rv r ∧ t ≤ i ∧ r.length ≤ i ∧ Below w.heap.size w wq
/-- What an answer of the program's is by its number. -/
def NumOf (u : Value) (z : Int) : Prop := ∀ W, ErrType W → Calls Tryd.prog 14 #[u] W fun e w' => e = .returned (.int .i64 z) ∧ Below W.heap.size W w'
theorem num_nil : NumOf .nilIface 0 := fun W _ => num11_nil W
theorem num_err (z : Int) : NumOf (errE z) z := fun W h => num11 z W h
/-- All but the first one. -/
theorem lst_tail {w : World} {v : Value} {x : Sl} {r : List Sl} (h : Lst w v (x :: r)) : ∃ b o c, v = .slice (some ⟨b, o, none⟩) (r.length + 1) c ∧ ((c = 1 ∧ r = [] ∧ Lst w (.slice (some ⟨b, o, none⟩) 0 0) r) ∨ (c ≠ 1 ∧ r.length + 1 ≤ c ∧ Lst w (.slice (some ⟨b, o + 2, none⟩) r.length (c - 1)) r)) := by
  obtain ⟨a, c, rfl, h1, h2, h3, h4⟩ := h
  rcases h4 with ⟨rfl, rfl⟩ | ⟨b, o, cs, z, rfl, h4⟩
  · simp at h2
  · refine ⟨b, o, c, rfl, ?_⟩
    simp only [List.length_cons] at h2
    by_cases hc : c = 1
    · obtain rfl : r = [] := List.eq_nil_of_length_eq_zero (by omega)
      exact .inl ⟨hc, rfl, _, 0, rfl, itemsIn_nil _ _, Nat.le_refl _, by unfold maxLen; omega, .inr ⟨b, o, cs, z, rfl, h4⟩⟩
    · exact .inr ⟨hc, h2, _, c - 1, rfl, by have := h1.drop 1; simpa using this, by omega, by omega, .inr ⟨b, o + 2, cs, z, rfl, h4⟩⟩
/-- One operation of a drawn region, taken first: it is found in the list. -/
theorem take_at {P : Program} {l : List Oper} {Q : Exit → Act → World → Prop} {md : Region.Mode} {S : World → Prop} (i : Nat) (v : Value) {oi : Oper} {post : List Oper} {fuel : Nat} {listed : Array Bool} {a : Act} {w : World} (hi : l.drop i = oi :: post)
    (hs : Region.noSelect l.toArray = true) (hf : Region.free md l.toArray listed i = true) (hr : (Region.ready md l.toArray listed).contains i = true)
    (hQ : ∀ c a w, Q (.panic c) (a.put oi.dst v) w → Q (.panic c) a w) (hy : YieldsIf P l.toArray S oi v a) (hS : S w)
    (h : wpAnyH P md l.toArray Q S fuel (listed.setIfInBounds i true) (a.put oi.dst v) w) : wpAnyH P md l.toArray Q S (fuel + 1) listed a w := by
  refine wpAnyH_take (i := i) ?_ hs hf hr hQ hy hS h
  have h1 : (l.drop i)[0]? = some oi := by rw [hi]; rfl
  rw [List.getElem?_drop, Nat.add_zero] at h1
  simpa using h1
theorem kind_at (k : Int) : ∃ m : Nat, wrap64 ((IntKind.u64.wrap k).tmod 4) = (m : Int) ∧ m < 4 := by
  have h0 : 0 ≤ IntKind.u64.wrap k := by simp [IntKind.wrap, IntKind.bits, IntKind.signed]; omega
  generalize IntKind.u64.wrap k = m at *
  rw [Int.tmod_eq_emod_of_nonneg h0]
  have h1 := Int.emod_nonneg m (show (4 : Int) ≠ 0 by omega)
  have h2 := Int.emod_lt_of_pos m (show (0 : Int) < (4 : Int) by omega)
  generalize m % (4 : Int) = r at *
  refine ⟨r.toNat, ?_, by omega⟩
  have : wrap64 r = r := by simp [wrap64]; omega
  rw [this]; omega
set_option maxHeartbeats 20000000 in
set_option maxRecDepth 100000 in
theorem law_runs (a : Option Addr) (L c : Nat) (f : Nat → ActV) (w : World) (hin : ActsAt w a L f) (hE : ErrType w) :
    Calls Tryd.prog 3 #[.slice a L c] w fun e w' => e = .returned (.bool true) ∧ Below w.heap.size w w' := by
  have HI := Lib.hid hin
  have HE := Lib.hid hE
  have HN := Lib.hid (new_ w)
  obtain ⟨n, hn⟩ : ∃ n : Nat, n = min L 200 := ⟨_, rfl⟩
  clear hin hE
  go_enter Tryd.func3, Tryd.ntmps3
  go_wp2_with fail
  refine HN.out.mono ?_
  rintro e w1 ⟨rfl, hb1, hq1⟩
  have HS1 : Hid (St w 0 w1 (.slice none 0 0)) := ⟨[], _, _, _, _, _, hq1, ⟨none, 0, rfl, fun i hi => by simp at hi, Nat.le_refl _, by unfold maxLen; omega, .inl ⟨rfl, rfl⟩⟩, Nat.le_refl _, Nat.le_refl _, hb1⟩
  clear hb1 hq1 HN
  go_wp2_with fail
  go_loopg [4, 5] (n + 1) (fun gh rv iv wr => ∃ i : Nat, i ≤ n ∧ n + 1 ≤ gh + i ∧ iv = .int .i64 i ∧ Hid (St w i wr rv))
  case atStart => exact ⟨0, Nat.zero_le _, by omega, rfl, HS1.out⟩
  case round =>
    obtain ⟨i, hi, hgh, rfl, H⟩ := hrel
    clear HS1
    by_cases hlt : i < n
    · have hlt1 : (i : Int) < (L : Int) := by omega
      have hlt2 : (i : Int) < 200 := by omega
      obtain ⟨r, t, mv, v, b, S, hq, hl, ht, hrl, hbw⟩ := H.out
      obtain ⟨⟨g, o, rfl, c0, c1, c2⟩, hid, hrk⟩ := (HI.out.on rfl hbw) i (by omega)
      generalize f i = fa at *
      obtain ⟨kk, kid, krank⟩ := fa
      simp only at c0 c1 c2 hid hrk
      go_upto_block 2 with fail
      obtain ⟨m, hm, hm4⟩ := kind_at kk
      rw [hm]
      obtain ⟨W1, hW1⟩ : ∃ W1, W1 = wr.alloc (.cells #[.int .i64 kk, .int .i64 kid, .int .i64 krank] 27) := ⟨_, rfl⟩
      obtain ⟨A, hA⟩ : ∃ A, A = wr.heap.size := ⟨_, rfl⟩
      have hbA : Below wr.heap.size wr W1 := by rw [hW1]; exact (Below.refl _ _).alloc (Nat.le_refl _) _
      have hA1 : W1.heap[A]? = some (.cells #[.int .i64 kk, .int .i64 kid, .int .i64 krank] 27 (0, 0)) := by rw [hW1, hA]; exact heap_alloc_new _ _
      have HQ1 := Lib.hid (hq.on hbA)
      have HL1 := Lib.hid (hl.on hbA)
      have HB1 := Lib.hid (below_step hbw hbA)
      have HA1 := Lib.hid hA1
      have a1 := cell_of (o := 1) hA1 rfl
      have a2 := cell_of (o := 2) hA1 rfl
      rw [← hA, ← hW1]
      have hrl2 : r.length ≤ 200 := by omega
      have ht2 : t ≤ 200 := by omega
      clear hq hl hbw H hbA hA1 hm hW1 hA c0 c1 c2
      go_cut [4, 7, 8, 9, 10] from 19 to 156 (fun x4 x7 x8 _ _ wx => ∃ fz : Int, x7 = .int .i64 fz ∧ Hid (NumOf x8 fz ∧ St w (i + 1) wx x4))
      case first =>
        obtain rfl | rfl | rfl | rfl : m = 0 ∨ m = 1 ∨ m = 2 ∨ m = 3 := by omega
        · by_cases hin : ∃ y ∈ r, y.id = kid
          · have HP := Lib.hid (push_dup HQ1.out kid krank hid hin)
            obtain ⟨y, hy, hyid⟩ := hin
            obtain ⟨k, hk, hky⟩ := List.getElem_of_mem hy
            have hkid : (r[k]).id = kid := by rw [hky]; exact hyid
            have HR := Lib.hid (rpushN (id := kid) (rank := krank) HL1.out (by omega) hk hkid HQ1.out.ids HQ1.out.srt)
            clear hyid hky hy hk hkid
            go_wp2_with fail
            refine HP.out.mono ?_
            rintro e w2 ⟨rfl, rfl⟩
            unfold errE
            go_wp2_with fail
            refine HR.out.mono ?_
            rintro e w3 ⟨rfl, hb3⟩
            have HST : Hid (St w (i + 1) w3 u4) := ⟨r, t, mv, v, b, S, HQ1.out.on hb3, HL1.out.on hb3, by omega, by omega, below_step HB1.out hb3⟩
            clear hb3 HR
            go_wp2_with fail
            go_meet
            case rel => exact ⟨9, rfl, num_err 9, HST.out⟩
          · have hno : ∀ y ∈ r, y.id ≠ kid := fun y hy e => hin ⟨y, hy, e⟩
            have HNO := Lib.hid hno
            have HP := Lib.hid (push_ HQ1.out kid krank hid hrk hno (by omega) (by omega))
            clear hno hin
            go_wp2_with fail
            refine HP.out.mono ?_
            rintro e w2 ⟨rfl, ⟨mv2, v2, b2, S2, hq2⟩, hf2⟩
            have hA2 := (hf2.keep _ _ _ _ HA1.out (by decide) (by decide) (by decide)).trans HA1.out
            have b1 := cell_of (o := 1) hA2 rfl
            have b2' := cell_of (o := 2) hA2 rfl
            have HQ2 := Lib.hid hq2
            have HL2 := Lib.hid (HL1.out.fq hf2)
            have HB2 := Lib.hid (HB1.out.trans (hf2.below HB1.out.size))
            clear hq2 hf2 hA2 HQ1 HL1 HB1 HA1 HP a1 a2
            have HR := Lib.hid (rpushY ⟨kid, krank, ⟨#[]⟩, (t : Int) + 1⟩ HL2.out (by omega) HNO.out)
            simp only at HR
            go_wp2_with fail
            refine HR.out.mono ?_
            rintro e w3 ⟨⟨v3, rfl, hl3⟩, hb3⟩
            have hlen := HQ2.out.len
            have HST : Hid (St w (i + 1) w3 v3) := ⟨insL r ⟨kid, krank, ⟨#[]⟩, (t : Int) + 1⟩, t + 1, mv2, v2, b2, S2, by rw [hlen]; exact HQ2.out.on hb3, hl3, by omega, by rw [hlen]; omega, below_step HB2.out hb3⟩
            clear hl3 hlen
            clear hb3 HR
            go_wp2_with fail
            go_meet
            case rel => exact ⟨0, rfl, num_nil, HST.out⟩
        · by_cases hin : ∃ y ∈ r, y.id = kid
          · obtain ⟨y, hy, hyid⟩ := hin
            obtain ⟨k, hk, hky⟩ := List.getElem_of_mem hy
            have hsp : r = r.take k ++ y :: r.drop (k + 1) := by rw [← hky, ← List.drop_eq_getElem_cons hk, List.take_append_drop]
            have HIDS := Lib.hid (And.intro HQ1.out.ids HQ1.out.srt)
            have hkid : (r[k]).id = kid := by rw [hky]; exact hyid
            have HK := Lib.hid hkid
            obtain ⟨n', hn'⟩ : ∃ n', r.length = n' := ⟨_, rfl⟩
            have hq' := HQ1.out
            rw [hn', hsp] at hq'
            have HP := Lib.hid (move_yes hq' krank hrk (by omega))
            rw [hyid] at HP
            clear hq' hsp hyid hky hkid
            go_wp2_with fail
            refine HP.out.mono ?_
            rintro e w2 ⟨rfl, ⟨mv2, v2, b2, S2, hq2⟩, hf2⟩
            have hA2 := (hf2.keep _ _ _ _ HA1.out (by decide) (by decide) (by decide)).trans HA1.out
            have b1 := cell_of (o := 1) hA2 rfl
            have b2' := cell_of (o := 2) hA2 rfl
            have HQ2 := Lib.hid hq2
            have HL2 := Lib.hid (HL1.out.fq hf2)
            have HB2 := Lib.hid (HB1.out.trans (hf2.below HB1.out.size))
            clear hq2 hf2 hA2 HQ1 HL1 HB1 HA1 HP a1 a2
            have HR := Lib.hid (rmoveY ⟨kid, krank, ⟨#[]⟩, (t : Int) + 1⟩ HL2.out (by omega) hk HK.out rfl HIDS.out.1 HIDS.out.2)
            simp only at HR
            go_wp2_with fail
            refine HR.out.mono ?_
            rintro e w3 ⟨⟨v3, rfl, hl3⟩, hb3⟩
            have hlen := HQ2.out.len
            have HST : Hid (St w (i + 1) w3 v3) := ⟨insL (r.take k ++ r.drop (k + 1)) ⟨kid, krank, ⟨#[]⟩, (t : Int) + 1⟩, t + 1, mv2, v2, b2, S2, by rw [hlen]; exact HQ2.out.on hb3, hl3, by omega, by rw [hlen]; omega, below_step HB2.out hb3⟩
            clear hl3 hlen
            clear hb3 HR
            go_wp2_with fail
            go_meet
            case rel => exact ⟨0, rfl, num_nil, HST.out⟩
          · have hno : ∀ y ∈ r, y.id ≠ kid := fun y hy e => hin ⟨y, hy, e⟩
            have HP := Lib.hid (move_no HQ1.out kid krank hid hno)
            go_wp2_with fail
            refine HP.out.mono ?_
            rintro e w2 ⟨rfl, rfl⟩
            have HR := Lib.hid (rmoveN (rank := krank) HL1.out (by omega) hno)
            clear hno hin
            unfold errE
            go_wp2_with fail
            refine HR.out.mono ?_
            rintro e w3 ⟨rfl, hb3⟩
            have HST : Hid (St w (i + 1) w3 u4) := ⟨r, t, mv, v, b, S, HQ1.out.on hb3, HL1.out.on hb3, by omega, by omega, below_step HB1.out hb3⟩
            clear hb3 HR
            go_wp2_with fail
            go_meet
            case rel => exact ⟨8, rfl, num_err 8, HST.out⟩
        · by_cases hin : ∃ y ∈ r, y.id = kid
          · obtain ⟨y, hy, hyid⟩ := hin
            obtain ⟨k, hk, hky⟩ := List.getElem_of_mem hy
            have hsp : r = r.take k ++ y :: r.drop (k + 1) := by rw [← hky, ← List.drop_eq_getElem_cons hk, List.take_append_drop]
            have HIDS := Lib.hid (And.intro HQ1.out.ids HQ1.out.srt)
            have hkid : (r[k]).id = kid := by rw [hky]; exact hyid
            have HK := Lib.hid hkid
            obtain ⟨n', hn'⟩ : ∃ n', r.length = n' + 1 := ⟨r.length - 1, by omega⟩
            have hq' := HQ1.out
            rw [hn', hsp] at hq'
            have HP := Lib.hid (drop_yes hq')
            rw [hyid] at HP
            clear hq' hsp hyid hky hkid
            go_wp2_with fail
            refine HP.out.mono ?_
            rintro e w2 ⟨rfl, ⟨mv2, v2, b2, S2, hq2⟩, hf2⟩
            have hA2 := (hf2.keep _ _ _ _ HA1.out (by decide) (by decide) (by decide)).trans HA1.out
            have b1 := cell_of (o := 1) hA2 rfl
            have b2' := cell_of (o := 2) hA2 rfl
            have HQ2 := Lib.hid hq2
            have HL2 := Lib.hid (HL1.out.fq hf2)
            have HB2 := Lib.hid (HB1.out.trans (hf2.below HB1.out.size))
            clear hq2 hf2 hA2 HQ1 HL1 HB1 HA1 HP a1 a2
            have HR := Lib.hid (rdropY HL2.out (by omega) hk HK.out HIDS.out.1 HIDS.out.2)
            go_wp2_with fail
            refine HR.out.mono ?_
            rintro e w3 ⟨⟨v3, rfl, hl3⟩, hb3⟩
            have hlen := HQ2.out.len
            have HST : Hid (St w (i + 1) w3 v3) := ⟨r.take k ++ r.drop (k + 1), t, mv2, v2, b2, S2, by rw [hlen]; exact HQ2.out.on hb3, hl3, by omega, by rw [hlen]; omega, below_step HB2.out hb3⟩
            clear hl3 hlen
            clear hb3 HR
            go_wp2_with fail
            go_meet
            case rel => exact ⟨0, rfl, num_nil, HST.out⟩
          · have hno : ∀ y ∈ r, y.id ≠ kid := fun y hy e => hin ⟨y, hy, e⟩
            have HP := Lib.hid (drop_no HQ1.out kid hid hno)
            go_wp2_with fail
            refine HP.out.mono ?_
            rintro e w2 ⟨rfl, rfl⟩
            have HR := Lib.hid (rdropN HL1.out (by omega) hno)
            clear hno hin
            unfold errE
            go_wp2_with fail
            refine HR.out.mono ?_
            rintro e w3 ⟨rfl, hb3⟩
            have HST : Hid (St w (i + 1) w3 u4) := ⟨r, t, mv, v, b, S, HQ1.out.on hb3, HL1.out.on hb3, by omega, by omega, below_step HB1.out hb3⟩
            clear hb3 HR
            go_wp2_with fail
            go_meet
            case rel => exact ⟨8, rfl, num_err 8, HST.out⟩
        · cases r with
          | nil =>
            have HP := Lib.hid (pop_none HQ1.out)
            go_wp2_with fail
            refine HP.out.mono ?_
            rintro e w2 ⟨rfl, hb2⟩
            obtain ⟨a4, c4, rfl, _⟩ := HL1.out.sh
            obtain ⟨W3, hW3⟩ : ∃ W3, W3 = w2.alloc (.cells #[.int .i64 0, .int .i64 0] 37) := ⟨_, rfl⟩
            have hbX : Below w2.heap.size w2 W3 := by rw [hW3]; exact below_item w2
            have hb3 := below_step hb2 hbX
            have HST : Hid (St w (i + 1) W3 (.slice a4 0 c4)) := ⟨[], t, mv, v, b, S, HQ1.out.on hb3, HL1.out.on hb3, by omega, by simp, below_step HB1.out hb3⟩
            have HW3 := Lib.hid hW3
            clear hb2 hbX hb3 hW3 HP
            unfold errE
            simp only [List.length_nil]
            go_wp2_with fail
            rw [← HW3.out]
            go_meet
            case rel => exact ⟨8, rfl, num_err 8, HST.out⟩
          | cons x r =>
            have HP := Lib.hid (pop_some HQ1.out)
            obtain ⟨xi, xr, hxi, hxr⟩ : ∃ xi xr, x.id = xi ∧ x.rank = xr := ⟨_, _, rfl, rfl⟩
            rw [hxi, hxr] at HP
            go_wp2_with fail
            refine HP.out.mono ?_
            rintro e w2 ⟨rfl, ⟨mv2, v2, b2, S2, hq2⟩, hf2⟩
            obtain ⟨W3, hW3⟩ : ∃ W3, W3 = w2.alloc (.cells #[.int .i64 xi, .int .i64 xr] 37) := ⟨_, rfl⟩
            obtain ⟨X, hX⟩ : ∃ X, X = w2.heap.size := ⟨_, rfl⟩
            have hbX : Below w2.heap.size w2 W3 := by rw [hW3]; exact (Below.refl _ _).alloc (Nat.le_refl _) _
            have hl3 := (HL1.out.fq hf2).on hbX
            have hb2 := HB1.out.trans (hf2.below HB1.out.size)
            have x0 : W3.cell? ⟨X, 0, none⟩ = some (.int .i64 xi) := by rw [hW3, hX]; exact cell_of (heap_alloc_new _ _) rfl
            have x1 : W3.cell? ⟨X, 1, none⟩ = some (.int .i64 xr) := by rw [hW3, hX]; exact cell_of (heap_alloc_new _ _) rfl
            have hEQ := fun W => eqI_ W xi xr
            obtain ⟨b4, o4, c4, rfl, hcs⟩ := lst_tail hl3
            obtain ⟨_, _, ev, hit, _⟩ := hl3
            cases ev
            obtain ⟨b', o', e', y0, y1⟩ := hit 0 (by simp)
            cases e'
            simp only [Nat.zero_mul, Nat.add_zero, List.getElem_cons_zero, hxi, hxr] at y0 y1
            have HQ3 := Lib.hid (hq2.on hbX)
            have HB3 := Lib.hid (below_step hb2 hbX)
            have HW3 := Lib.hid hW3
            have HX := Lib.hid hX
            simp only [List.length_cons] at hrl hrl2
            clear hq2 hf2 hbX hb2 HP hW3 hX HQ1 HL1 HB1 HA1 hit hxi hxr a1 a2
            rcases hcs with ⟨rfl, rfl, htl⟩ | ⟨hc1, hlc, htl⟩
            · have HTL := Lib.hid htl
              clear htl
              go_wp2_with fail
              rw [← HW3.out, ← HX.out]
              go_quiet (fail)
              have HST : Hid (St w (i + 1) (W3.drewN nq) (.slice (some ⟨b4, o4, none⟩) 0 0)) := ⟨[], t, mv2, v2, b2, S2, HQ3.out.on (below_drewN (Below.refl _ _) nq), HTL.out.on (below_drewN (Below.refl _ _) nq), by omega, by first | omega | simp, below_drewN HB3.out nq⟩
              clear HQ3 HTL
              go_wp2_with fail
              go_meet
              case rel => exact ⟨0, rfl, num_nil, HST.out⟩
            · have HTL := Lib.hid htl
              clear htl
              go_wp2_with fail
              rw [← HW3.out, ← HX.out]
              go_quiet (fail)
              have HST : Hid (St w (i + 1) (W3.drewN nq) (.slice (some ⟨b4, o4 + 2, none⟩) r.length (c4 - 1))) := ⟨r, t, mv2, v2, b2, S2, HQ3.out.on (below_drewN (Below.refl _ _) nq), HTL.out.on (below_drewN (Below.refl _ _) nq), by omega, by first | omega | simp, below_drewN HB3.out nq⟩
              clear HQ3 HTL
              go_wp2_with fail
              go_meet
              case rel => exact ⟨0, rfl, num_nil, HST.out⟩
      case rest =>
        obtain ⟨fz, rfl, HC⟩ := hcut
        obtain ⟨hnum, r', t', mv', v', b', S', hq', hl', ht', hrl', hbw'⟩ := HC.out
        clear HQ1 HL1 HB1 HA1 a1 a2 ht hrl hrl2 ht2 hid hrk
        cases r' with
        | nil =>
          obtain ⟨a4, c4, rfl, _⟩ := hl'.sh
          have HT := Lib.hid (top_none hq')
          have HIT : Hid (Lst wc (.slice a4 0 c4) []) := hl'
          simp only [List.length_nil]
          have HQ := Lib.hid hq'
          have HB := Lib.hid hbw'
          have HNU := Lib.hid hnum
          clear hq' hbw' hnum HC
          go_wp2_with fail
          refine HT.out.mono ?_
          rintro e w2 ⟨rfl, hb2⟩
          obtain ⟨W3, hW3⟩ : ∃ W3, W3 = w2.alloc (.cells #[.int .i64 0, .int .i64 0] 37) := ⟨_, rfl⟩
          obtain ⟨X, hX⟩ : ∃ X, X = w2.heap.size := ⟨_, rfl⟩
          have hbX : Below w2.heap.size w2 W3 := by rw [hW3]; exact (Below.refl _ _).alloc (Nat.le_refl _) _
          have hx : W3.heap[X]? = some (.cells #[.int .i64 0, .int .i64 0] 37 (0, 0)) := by rw [hW3, hX]; exact heap_alloc_new _ _
          have hbc : Below wc.heap.size wc W3 := below_step hb2 hbX
          have HBC := Lib.hid hbc
          have x0 : ∀ W, Below W3.heap.size W3 W → W.cell? ⟨X, 0, none⟩ = some (.int .i64 0) := fun W hW => (hW.cell (blk_lt hx)).trans (cell_of hx rfl)
          have x1 : ∀ W, Below W3.heap.size W3 W → W.cell? ⟨X, 1, none⟩ = some (.int .i64 0) := fun W hW => (hW.cell (blk_lt hx)).trans (cell_of hx rfl)
          have hEQ := fun W => eqI_ W 0 0
          have HW3 := Lib.hid hW3
          have HX := Lib.hid hX
          have HE3 := Lib.hid (HE.out.on (below_step HB.out hbc))
          have HQ3 := Lib.hid (HQ.out.on hbc)
          have HIT3 := Lib.hid (HIT.out.on hbc)
          have HBW3 := Lib.hid (below_step HB.out hbc)
          clear hb2 hbX hx hbc hW3 hX HT HQ HIT HB
          have C1 : Hid (∀ W, Below W3.heap.size W3 W → Calls Tryd.prog 14 #[u8] W fun e w' => e = .returned (.int .i64 fz) ∧ Below W.heap.size W w') := fun W hW => HNU.out W (HE3.out.on hW)
          have C2 : Hid (∀ W, Below W3.heap.size W3 W → Calls Tryd.prog 15 #[.pointer (some ⟨w.heap.size, 0, none⟩)] W fun e w' => e = .returned (.int .i64 0) ∧ Below W.heap.size W w') := fun W hW => (qlen_ (HQ3.out.on hW).ln).mono fun e w' ⟨he, hw⟩ => ⟨he, by rw [hw]; exact Below.refl _ _⟩
          have C3 : Hid (∀ W, Below W3.heap.size W3 W → Calls Tryd.prog 17 #[.pointer (some ⟨w.heap.size, 0, none⟩)] W fun e w' => (∃ a c, e = .returned (.slice a 0 c)) ∧ Below W.heap.size W w') := fun W hW => all_none (HQ3.out.on hW)
          have C4 : Hid (∀ W a c, Below W3.heap.size W3 W → Calls Tryd.prog 16 #[.slice a 0 c, .slice a4 0 c4] W fun e w' => e = .returned (.bool true) ∧ Below W.heap.size W w') := fun W a c hW => items_ a a4 0 c c4 [] W rfl (itemsIn_nil _ _) (itemsIn_nil _ _) (by simp)
          have C5 : Hid (∀ W, Below W3.heap.size W3 W → Calls Tryd.prog 14 #[.iface 55 (.int .i64 8)] W fun e w' => e = .returned (.int .i64 8) ∧ Below W.heap.size W w') := fun W hW => num11 8 W (HE3.out.on hW)
          have HF : Hid (∀ W, Below W3.heap.size W3 W → St w (i + 1) W (.slice a4 0 c4)) := fun W hW => ⟨[], t', mv', v', b', S', HQ3.out.on hW, HIT3.out.on hW, ht', hrl', below_step HBW3.out hW⟩
          unfold errE
          go_wp2_with fail
          rw [← HW3.out, ← HX.out]
          clear HW3 HX HNU HQ3 HE3 HIT3 HBW3 HI HE
          refine wp_region_noPanic ?_
          refine wp_region_held_drew (S := fun w' => Below W3.heap.size W3 w') (by kernel_rfl) (below_drew _) (fun hHeld => ?_)
          refine take_at 0 (u8) rfl (by kernel_rfl) (by kernel_rfl) (by kernel_rfl) (fun _ _ _ h => h) (Or.inl ⟨by rfl, ?_⟩) (by assumption) ?_
          · intro w hSw; go_simp
          simp only [Act.put, List.setIfInBounds_toArray, List.set_cons_zero, List.set_cons_succ]
          refine take_at 2 (.int .i64 fz) rfl (by kernel_rfl) (by kernel_rfl) (by kernel_rfl) (fun _ _ _ h => h) (Or.inl ⟨by rfl, ?_⟩) (by assumption) ?_
          · intro w hSw; go_simp
          simp only [Act.put, List.setIfInBounds_toArray, List.set_cons_zero, List.set_cons_succ]
          refine wpAnyH_ready (rs := [1]) (by kernel_rfl) (by simp) ?_
          refine AllReadyH.cons rfl (fun KK hK => ?_) AllReadyH.nil
          go_simp
          go_wp2_with (first | (go_at_call 14; refine (C1.out _ (by assumption)).mono ?_; rintro e w1 ⟨rfl, hb1⟩))
          refine hK.out _ _ ?_ (fun hHeld1 => ?_)
          · exact below_step (by assumption) hb1
          clear hK KK
          refine take_at 3 (.bool false) rfl (by kernel_rfl) (by kernel_rfl) (by kernel_rfl) (fun _ _ _ h => h) (Or.inl ⟨by rfl, ?_⟩) (by assumption) ?_
          · intro w hSw; go_simp
          simp only [Act.put, List.setIfInBounds_toArray, List.set_cons_zero, List.set_cons_succ]
          refine take_at 4 (.bool false) rfl (by kernel_rfl) (by kernel_rfl) (by kernel_rfl) (fun _ _ _ h => h) (Or.inl ⟨by rfl, ?_⟩) (by assumption) ?_
          · intro w hSw; go_simp
          simp only [Act.put, List.setIfInBounds_toArray, List.set_cons_zero, List.set_cons_succ]
          refine take_at 5 (.pointer (some ⟨w.heap.size, 0, none⟩)) rfl (by kernel_rfl) (by kernel_rfl) (by kernel_rfl) (fun _ _ _ h => h) (Or.inl ⟨by rfl, ?_⟩) (by assumption) ?_
          · intro w hSw; go_simp
          simp only [Act.put, List.setIfInBounds_toArray, List.set_cons_zero, List.set_cons_succ]
          refine take_at 7 (.slice a4 0 c4) rfl (by kernel_rfl) (by kernel_rfl) (by kernel_rfl) (fun _ _ _ h => h) (Or.inl ⟨by rfl, ?_⟩) (by assumption) ?_
          · intro w hSw; go_simp
          simp only [Act.put, List.setIfInBounds_toArray, List.set_cons_zero, List.set_cons_succ]
          refine take_at 8 (.int .i64 0) rfl (by kernel_rfl) (by kernel_rfl) (by kernel_rfl) (fun _ _ _ h => h) (Or.inl ⟨by rfl, ?_⟩) (by assumption) ?_
          · intro w hSw; go_simp
          simp only [Act.put, List.setIfInBounds_toArray, List.set_cons_zero, List.set_cons_succ]
          refine wpAnyH_ready (rs := [6]) (by kernel_rfl) (by simp) ?_
          refine AllReadyH.cons rfl (fun KK hK => ?_) AllReadyH.nil
          go_simp
          go_wp2_with (first | (go_at_call 15; refine (C2.out _ (by assumption)).mono ?_; rintro e w6 ⟨rfl, hb6⟩))
          refine hK.out _ _ ?_ (fun hHeld6 => ?_)
          · exact below_step (by assumption) hb6
          clear hK KK
          refine take_at 9 (.bool false) rfl (by kernel_rfl) (by kernel_rfl) (by kernel_rfl) (fun _ _ _ h => h) (Or.inl ⟨by rfl, ?_⟩) (by assumption) ?_
          · intro w hSw; go_simp
          simp only [Act.put, List.setIfInBounds_toArray, List.set_cons_zero, List.set_cons_succ]
          refine take_at 10 (.bool false) rfl (by kernel_rfl) (by kernel_rfl) (by kernel_rfl) (fun _ _ _ h => h) (Or.inl ⟨by rfl, ?_⟩) (by assumption) ?_
          · intro w hSw; go_simp
          simp only [Act.put, List.setIfInBounds_toArray, List.set_cons_zero, List.set_cons_succ]
          refine take_at 11 (.bool false) rfl (by kernel_rfl) (by kernel_rfl) (by kernel_rfl) (fun _ _ _ h => h) (Or.inl ⟨by rfl, ?_⟩) (by assumption) ?_
          · intro w hSw; go_simp
          simp only [Act.put, List.setIfInBounds_toArray, List.set_cons_zero, List.set_cons_succ]
          refine take_at 12 (.pointer (some ⟨w.heap.size, 0, none⟩)) rfl (by kernel_rfl) (by kernel_rfl) (by kernel_rfl) (fun _ _ _ h => h) (Or.inl ⟨by rfl, ?_⟩) (by assumption) ?_
          · intro w hSw; go_simp
          simp only [Act.put, List.setIfInBounds_toArray, List.set_cons_zero, List.set_cons_succ]
          refine take_at 14 (.slice a4 0 c4) rfl (by kernel_rfl) (by kernel_rfl) (by kernel_rfl) (fun _ _ _ h => h) (Or.inl ⟨by rfl, ?_⟩) (by assumption) ?_
          · intro w hSw; go_simp
          simp only [Act.put, List.setIfInBounds_toArray, List.set_cons_zero, List.set_cons_succ]
          refine wpAnyH_ready (rs := [13]) (by kernel_rfl) (by simp) ?_
          refine AllReadyH.cons rfl (fun KK hK => ?_) AllReadyH.nil
          go_simp
          go_wp2_with (first | (go_at_call 17; refine (C3.out _ (by assumption)).mono ?_; rintro e w13 ⟨⟨ai, ci, rfl⟩, hb13⟩))
          refine hK.out _ _ ?_ (fun hHeld13 => ?_)
          · exact below_step (by assumption) hb13
          clear hK KK
          refine wpAnyH_ready (rs := [15]) (by kernel_rfl) (by simp) ?_
          refine AllReadyH.cons rfl (fun KK hK => ?_) AllReadyH.nil
          go_simp
          go_wp2_with (first | (go_at_call 16; refine (C4.out _ _ _ (by assumption)).mono ?_; rintro e w15 ⟨rfl, hb15⟩))
          refine hK.out _ _ ?_ (fun hHeld15 => ?_)
          · exact below_step (by assumption) hb15
          clear hK KK
          refine take_at 16 (.bool false) rfl (by kernel_rfl) (by kernel_rfl) (by kernel_rfl) (fun _ _ _ h => h) (Or.inl ⟨by rfl, ?_⟩) (by assumption) ?_
          · intro w hSw; go_simp
          simp only [Act.put, List.setIfInBounds_toArray, List.set_cons_zero, List.set_cons_succ]
          refine take_at 17 (.bool false) rfl (by kernel_rfl) (by kernel_rfl) (by kernel_rfl) (fun _ _ _ h => h) (Or.inl ⟨by rfl, ?_⟩) (by assumption) ?_
          · intro w hSw; go_simp
          simp only [Act.put, List.setIfInBounds_toArray, List.set_cons_zero, List.set_cons_succ]
          refine take_at 18 (.bool false) rfl (by kernel_rfl) (by kernel_rfl) (by kernel_rfl) (fun _ _ _ h => h) (Or.inl ⟨by rfl, ?_⟩) (by assumption) ?_
          · intro w hSw; go_simp
          simp only [Act.put, List.setIfInBounds_toArray, List.set_cons_zero, List.set_cons_succ]
          refine take_at 19 (.iface 55 (.int .i64 8)) rfl (by kernel_rfl) (by kernel_rfl) (by kernel_rfl) (fun _ _ _ h => h) (Or.inl ⟨by rfl, ?_⟩) (by assumption) ?_
          · intro w hSw; go_simp
          simp only [Act.put, List.setIfInBounds_toArray, List.set_cons_zero, List.set_cons_succ]
          refine take_at 20 (.bool false) rfl (by kernel_rfl) (by kernel_rfl) (by kernel_rfl) (fun _ _ _ h => h) (Or.inl ⟨by rfl, ?_⟩) (by assumption) ?_
          · intro w hSw; go_simp
          simp only [Act.put, List.setIfInBounds_toArray, List.set_cons_zero, List.set_cons_succ]
          refine take_at 21 (.slice a4 0 c4) rfl (by kernel_rfl) (by kernel_rfl) (by kernel_rfl) (fun _ _ _ h => h) (Or.inl ⟨by rfl, ?_⟩) (by assumption) ?_
          · intro w hSw; go_simp
          simp only [Act.put, List.setIfInBounds_toArray, List.set_cons_zero, List.set_cons_succ]
          refine take_at 22 (.int .i64 0) rfl (by kernel_rfl) (by kernel_rfl) (by kernel_rfl) (fun _ _ _ h => h) (Or.inl ⟨by rfl, ?_⟩) (by assumption) ?_
          · intro w hSw; go_simp
          simp only [Act.put, List.setIfInBounds_toArray, List.set_cons_zero, List.set_cons_succ]
          refine take_at 23 (.bool false) rfl (by kernel_rfl) (by kernel_rfl) (by kernel_rfl) (fun _ _ _ h => h) (Or.inl ⟨by rfl, ?_⟩) (by assumption) ?_
          · intro w hSw; go_simp
          simp only [Act.put, List.setIfInBounds_toArray, List.set_cons_zero, List.set_cons_succ]
          refine take_at 24 (.bool false) rfl (by kernel_rfl) (by kernel_rfl) (by kernel_rfl) (fun _ _ _ h => h) (Or.inl ⟨by rfl, ?_⟩) (by assumption) ?_
          · intro w hSw; go_simp
          simp only [Act.put, List.setIfInBounds_toArray, List.set_cons_zero, List.set_cons_succ]
          refine take_at 25 (.bool false) rfl (by kernel_rfl) (by kernel_rfl) (by kernel_rfl) (fun _ _ _ h => h) (Or.inl ⟨by rfl, ?_⟩) (by assumption) ?_
          · intro w hSw; go_simp
          simp only [Act.put, List.setIfInBounds_toArray, List.set_cons_zero, List.set_cons_succ]
          refine take_at 26 (.bool false) rfl (by kernel_rfl) (by kernel_rfl) (by kernel_rfl) (fun _ _ _ h => h) (Or.inl ⟨by rfl, ?_⟩) (by assumption) ?_
          · intro w hSw; go_simp
          simp only [Act.put, List.setIfInBounds_toArray, List.set_cons_zero, List.set_cons_succ]
          refine take_at 27 (.iface 55 (.int .i64 8)) rfl (by kernel_rfl) (by kernel_rfl) (by kernel_rfl) (fun _ _ _ h => h) (Or.inl ⟨by rfl, ?_⟩) (by assumption) ?_
          · intro w hSw; go_simp
          simp only [Act.put, List.setIfInBounds_toArray, List.set_cons_zero, List.set_cons_succ]
          refine take_at 28 (.bool false) rfl (by kernel_rfl) (by kernel_rfl) (by kernel_rfl) (fun _ _ _ h => h) (Or.inl ⟨by rfl, ?_⟩) (by assumption) ?_
          · intro w hSw; go_simp
          simp only [Act.put, List.setIfInBounds_toArray, List.set_cons_zero, List.set_cons_succ]
          refine take_at 29 (.bool false) rfl (by kernel_rfl) (by kernel_rfl) (by kernel_rfl) (fun _ _ _ h => h) (Or.inl ⟨by rfl, ?_⟩) (by assumption) ?_
          · intro w hSw; go_simp
          simp only [Act.put, List.setIfInBounds_toArray, List.set_cons_zero, List.set_cons_succ]
          refine take_at 30 undef rfl (by kernel_rfl) (by kernel_rfl) (by kernel_rfl) (fun _ _ _ h => h) (Or.inr ⟨by rfl, rfl⟩) (by assumption) ?_
          simp only [Act.put, List.setIfInBounds_toArray, List.set_cons_zero, List.set_cons_succ]
          refine take_at 31 undef rfl (by kernel_rfl) (by kernel_rfl) (by kernel_rfl) (fun _ _ _ h => h) (Or.inr ⟨by rfl, rfl⟩) (by assumption) ?_
          simp only [Act.put, List.setIfInBounds_toArray, List.set_cons_zero, List.set_cons_succ]
          refine take_at 32 undef rfl (by kernel_rfl) (by kernel_rfl) (by kernel_rfl) (fun _ _ _ h => h) (Or.inr ⟨by rfl, rfl⟩) (by assumption) ?_
          simp only [Act.put, List.setIfInBounds_toArray, List.set_cons_zero, List.set_cons_succ]
          refine take_at 33 undef rfl (by kernel_rfl) (by kernel_rfl) (by kernel_rfl) (fun _ _ _ h => h) (Or.inr ⟨by rfl, rfl⟩) (by assumption) ?_
          simp only [Act.put, List.setIfInBounds_toArray, List.set_cons_zero, List.set_cons_succ]
          refine take_at 34 undef rfl (by kernel_rfl) (by kernel_rfl) (by kernel_rfl) (fun _ _ _ h => h) (Or.inr ⟨by rfl, rfl⟩) (by assumption) ?_
          simp only [Act.put, List.setIfInBounds_toArray, List.set_cons_zero, List.set_cons_succ]
          refine take_at 35 (.bool false) rfl (by kernel_rfl) (by kernel_rfl) (by kernel_rfl) (fun _ _ _ h => h) (Or.inl ⟨by rfl, ?_⟩) (by assumption) ?_
          · intro w hSw; go_simp
          simp only [Act.put, List.setIfInBounds_toArray, List.set_cons_zero, List.set_cons_succ]
          refine take_at 36 (.bool false) rfl (by kernel_rfl) (by kernel_rfl) (by kernel_rfl) (fun _ _ _ h => h) (Or.inl ⟨by rfl, ?_⟩) (by assumption) ?_
          · intro w hSw; go_simp
          simp only [Act.put, List.setIfInBounds_toArray, List.set_cons_zero, List.set_cons_succ]
          refine take_at 37 (.bool false) rfl (by kernel_rfl) (by kernel_rfl) (by kernel_rfl) (fun _ _ _ h => h) (Or.inl ⟨by rfl, ?_⟩) (by assumption) ?_
          · intro w hSw; go_simp
          simp only [Act.put, List.setIfInBounds_toArray, List.set_cons_zero, List.set_cons_succ]
          refine take_at 38 (.iface 55 (.int .i64 8)) rfl (by kernel_rfl) (by kernel_rfl) (by kernel_rfl) (fun _ _ _ h => h) (Or.inl ⟨by rfl, ?_⟩) (by assumption) ?_
          · intro w hSw; go_simp
          simp only [Act.put, List.setIfInBounds_toArray, List.set_cons_zero, List.set_cons_succ]
          refine take_at 39 (.bool true) rfl (by kernel_rfl) (by kernel_rfl) (by kernel_rfl) (fun _ _ _ h => h) (Or.inl ⟨by rfl, ?_⟩) (by assumption) ?_
          · intro w hSw; go_simp
          simp only [Act.put, List.setIfInBounds_toArray, List.set_cons_zero, List.set_cons_succ]
          refine take_at 40 (.bool true) rfl (by kernel_rfl) (by kernel_rfl) (by kernel_rfl) (fun _ _ _ h => h) (Or.inl ⟨by rfl, ?_⟩) (by assumption) ?_
          · intro w hSw; go_simp
          simp only [Act.put, List.setIfInBounds_toArray, List.set_cons_zero, List.set_cons_succ]
          refine take_at 41 (.iface 55 (.int .i64 8)) rfl (by kernel_rfl) (by kernel_rfl) (by kernel_rfl) (fun _ _ _ h => h) (Or.inl ⟨by rfl, ?_⟩) (by assumption) ?_
          · intro w hSw; go_simp
          simp only [Act.put, List.setIfInBounds_toArray, List.set_cons_zero, List.set_cons_succ]
          refine wpAnyH_ready (rs := [42]) (by kernel_rfl) (by simp) ?_
          refine AllReadyH.cons rfl (fun KK hK => ?_) AllReadyH.nil
          go_simp
          go_wp2_with (first | (go_at_call 14; refine (C5.out _ (by assumption)).mono ?_; rintro e w42 ⟨rfl, hb42⟩))
          refine hK.out _ _ ?_ (fun hHeld42 => ?_)
          · exact below_step (by assumption) hb42
          clear hK KK
          refine take_at 43 (.bool false) rfl (by kernel_rfl) (by kernel_rfl) (by kernel_rfl) (fun _ _ _ h => h) (Or.inl ⟨by rfl, ?_⟩) (by assumption) ?_
          · intro w hSw; go_simp
          simp only [Act.put, List.setIfInBounds_toArray, List.set_cons_zero, List.set_cons_succ]
          refine take_at 44 (.bool false) rfl (by kernel_rfl) (by kernel_rfl) (by kernel_rfl) (fun _ _ _ h => h) (Or.inl ⟨by rfl, ?_⟩) (by assumption) ?_
          · intro w hSw; go_simp
          simp only [Act.put, List.setIfInBounds_toArray, List.set_cons_zero, List.set_cons_succ]
          refine take_at 45 (.agg #[.int .i64 0, .int .i64 0]) rfl (by kernel_rfl) (by kernel_rfl) (by kernel_rfl) (fun _ _ _ h => h) (Or.inl ⟨by rfl, ?_⟩) (by assumption) ?_
          · intro w hSw; go_simp
          simp only [Act.put, List.setIfInBounds_toArray, List.set_cons_zero, List.set_cons_succ]
          refine take_at 46 (.agg #[.int .i64 0, .int .i64 0]) rfl (by kernel_rfl) (by kernel_rfl) (by kernel_rfl) (fun _ _ _ h => h) (Or.inl ⟨by rfl, ?_⟩) (by assumption) ?_
          · intro w hSw; go_simp
          simp only [Act.put, List.setIfInBounds_toArray, List.set_cons_zero, List.set_cons_succ]
          refine take_at 47 (.bool false) rfl (by kernel_rfl) (by kernel_rfl) (by kernel_rfl) (fun _ _ _ h => h) (Or.inl ⟨by rfl, ?_⟩) (by assumption) ?_
          · intro w hSw; go_simp
          simp only [Act.put, List.setIfInBounds_toArray, List.set_cons_zero, List.set_cons_succ]
          refine take_at 48 (.bool false) rfl (by kernel_rfl) (by kernel_rfl) (by kernel_rfl) (fun _ _ _ h => h) (Or.inl ⟨by rfl, ?_⟩) (by assumption) ?_
          · intro w hSw; go_simp
          simp only [Act.put, List.setIfInBounds_toArray, List.set_cons_zero, List.set_cons_succ]
          refine take_at 49 (.bool false) rfl (by kernel_rfl) (by kernel_rfl) (by kernel_rfl) (fun _ _ _ h => h) (Or.inl ⟨by rfl, ?_⟩) (by assumption) ?_
          · intro w hSw; go_simp
          simp only [Act.put, List.setIfInBounds_toArray, List.set_cons_zero, List.set_cons_succ]
          refine take_at 50 (.bool false) rfl (by kernel_rfl) (by kernel_rfl) (by kernel_rfl) (fun _ _ _ h => h) (Or.inl ⟨by rfl, ?_⟩) (by assumption) ?_
          · intro w hSw; go_simp
          simp only [Act.put, List.setIfInBounds_toArray, List.set_cons_zero, List.set_cons_succ]
          refine wpAnyH_done (by kernel_rfl) ?_ _
          refine NoPanic.normal ?_
          clear C1 C2 C3 C4 x0 x1 hEQ
          go_wp2_with fail
          go_roundg (n - i)
          case measure => omega
          case rel => exact ⟨i + 1, by omega, by omega, by go_num, HF.out _ (by assumption)⟩
        | cons x rr =>
          obtain ⟨b4, o4, c4, rfl, _⟩ := lst_tail hl'
          have HT := Lib.hid (top_some hq')
          have HIT := Lib.hid hl'
          obtain ⟨xi, xr, hxi, hxr⟩ : ∃ xi xr, x.id = xi ∧ x.rank = xr := ⟨_, _, rfl, rfl⟩
          rw [hxi, hxr] at HT
          obtain ⟨_, _, ev, hit, _⟩ := hl'
          cases ev
          obtain ⟨b5, o5, e5, y0, y1⟩ := hit 0 (by simp)
          cases e5
          simp only [Nat.zero_mul, Nat.add_zero, List.getElem_cons_zero, hxi, hxr] at y0 y1
          have Y0 : ∀ W, Below wc.heap.size wc W → W.cell? ⟨b4, o4, none⟩ = some (.int .i64 xi) := fun W hW => (hW.cell (block_lt_of_cell y0)).trans y0
          have Y1 : ∀ W, Below wc.heap.size wc W → W.cell? ⟨b4, o4 + 1, none⟩ = some (.int .i64 xr) := fun W hW => (hW.cell (block_lt_of_cell y1)).trans y1
          have HQ := Lib.hid hq'
          have HB := Lib.hid hbw'
          have HNU := Lib.hid hnum
          clear hq' hit y0 y1 hxi hxr hbw' hnum HC
          go_wp2_with fail
          refine HT.out.mono ?_
          rintro e w2 ⟨rfl, hb2⟩
          obtain ⟨W3, hW3⟩ : ∃ W3, W3 = w2.alloc (.cells #[.int .i64 xi, .int .i64 xr] 37) := ⟨_, rfl⟩
          obtain ⟨X, hX⟩ : ∃ X, X = w2.heap.size := ⟨_, rfl⟩
          have hbX : Below w2.heap.size w2 W3 := by rw [hW3]; exact (Below.refl _ _).alloc (Nat.le_refl _) _
          have hx : W3.heap[X]? = some (.cells #[.int .i64 xi, .int .i64 xr] 37 (0, 0)) := by rw [hW3, hX]; exact heap_alloc_new _ _
          have hbc : Below wc.heap.size wc W3 := below_step hb2 hbX
          have HBC := Lib.hid hbc
          have x0 : ∀ W, Below W3.heap.size W3 W → W.cell? ⟨X, 0, none⟩ = some (.int .i64 xi) := fun W hW => (hW.cell (blk_lt hx)).trans (cell_of hx rfl)
          have x1 : ∀ W, Below W3.heap.size W3 W → W.cell? ⟨X, 1, none⟩ = some (.int .i64 xr) := fun W hW => (hW.cell (blk_lt hx)).trans (cell_of hx rfl)
          have z0 : ∀ W, Below W3.heap.size W3 W → W.cell? ⟨b4, o4, none⟩ = some (.int .i64 xi) := fun W hW => Y0 W (below_step hbc hW)
          have z1 : ∀ W, Below W3.heap.size W3 W → W.cell? ⟨b4, o4 + 1, none⟩ = some (.int .i64 xr) := fun W hW => Y1 W (below_step hbc hW)
          have hEQ := fun W => eqI_ W xi xr
          clear Y0 Y1
          have HW3 := Lib.hid hW3
          have HX := Lib.hid hX
          have HE3 := Lib.hid (HE.out.on (below_step HB.out hbc))
          have HQ3 := Lib.hid (HQ.out.on hbc)
          have HIT3 := Lib.hid (HIT.out.on hbc)
          have HBW3 := Lib.hid (below_step HB.out hbc)
          clear hb2 hbX hx hbc hW3 hX HT HQ HIT HB
          have C1 : Hid (∀ W, Below W3.heap.size W3 W → Calls Tryd.prog 14 #[u8] W fun e w' => e = .returned (.int .i64 fz) ∧ Below W.heap.size W w') := fun W hW => HNU.out W (HE3.out.on hW)
          have hn2 : rr.length + 1 ≤ 1000 := by simp only [List.length_cons] at hrl'; omega
          have C2 : Hid (∀ W, Below W3.heap.size W3 W → Calls Tryd.prog 15 #[.pointer (some ⟨w.heap.size, 0, none⟩)] W fun e w' => e = .returned (.int .i64 (rr.length + 1 : Nat)) ∧ Below W.heap.size W w') := fun W hW => (qlen_ (HQ3.out.on hW).ln).mono fun e w' ⟨he, hw⟩ => ⟨he, by rw [hw]; exact Below.refl _ _⟩
          have C3 : Hid (∀ W, Below W3.heap.size W3 W → Calls Tryd.prog 17 #[.pointer (some ⟨w.heap.size, 0, none⟩)] W fun e w' => (∃ a c, e = .returned (.slice a (rr.length + 1) c) ∧ ItemsIn w' a (x :: rr)) ∧ Below W.heap.size W w') := fun W hW => all_some (HQ3.out.on hW) (by omega)
          have C4 : Hid (∀ W a c, Below W3.heap.size W3 W → ItemsIn W a (x :: rr) → Calls Tryd.prog 16 #[.slice a (rr.length + 1) c, .slice (some ⟨b4, o4, none⟩) (rr.length + 1) c4] W fun e w' => e = .returned (.bool true) ∧ Below W.heap.size W w') := fun W a c hW hi => by
            obtain ⟨a6, c6, e6, h6⟩ := (HIT3.out.on hW).sh
            cases e6
            exact items_ a _ _ c c4 (x :: rr) W rfl hi h6 (by simp only [List.length_cons]; omega)
          have HF : Hid (∀ W, Below W3.heap.size W3 W → St w (i + 1) W (.slice (some ⟨b4, o4, none⟩) (rr.length + 1) c4)) := fun W hW => ⟨x :: rr, t', mv', v', b', S', HQ3.out.on hW, HIT3.out.on hW, ht', hrl', below_step HBW3.out hW⟩
          obtain ⟨nn, hnn⟩ : ∃ nn, nn = rr.length + 1 := ⟨_, rfl⟩
          rw [← hnn] at C2 C3 C4 hn2 HF
          rw [← hnn]
          have HNN := Lib.hid hnn
          have hn0 : (0 : Int) < (nn : Int) := by omega
          have hn1 : decide ((0 : Int) < (nn : Int)) = true := decide_eq_true hn0
          have hn3 : decide (0 < nn) = true := decide_eq_true (by omega)
          have hn5 : ¬ nn = 0 := by omega
          clear hnn
          go_wp2_with fail
          rw [← HW3.out, ← HX.out]
          clear HW3 HX HNU HE3 HQ3 HIT3 HBW3 HI HE HNN
          refine wp_region_noPanic ?_
          refine wp_region_held_drew (S := fun w' => Below W3.heap.size W3 w') (by kernel_rfl) (below_drew _) (fun hHeld => ?_)
          refine take_at 0 (u8) rfl (by kernel_rfl) (by kernel_rfl) (by kernel_rfl) (fun _ _ _ h => h) (Or.inl ⟨by rfl, ?_⟩) (by assumption) ?_
          · intro w hSw; go_simp
          simp only [Act.put, List.setIfInBounds_toArray, List.set_cons_zero, List.set_cons_succ]
          refine take_at 2 (.int .i64 fz) rfl (by kernel_rfl) (by kernel_rfl) (by kernel_rfl) (fun _ _ _ h => h) (Or.inl ⟨by rfl, ?_⟩) (by assumption) ?_
          · intro w hSw; go_simp
          simp only [Act.put, List.setIfInBounds_toArray, List.set_cons_zero, List.set_cons_succ]
          refine wpAnyH_ready (rs := [1]) (by kernel_rfl) (by simp) ?_
          refine AllReadyH.cons rfl (fun KK hK => ?_) AllReadyH.nil
          go_simp
          go_wp2_with (first | (go_at_call 14; refine (C1.out _ (by assumption)).mono ?_; rintro e w1 ⟨rfl, hb1⟩))
          refine hK.out _ _ ?_ (fun hHeld1 => ?_)
          · exact below_step (by assumption) hb1
          clear hK KK
          refine take_at 3 (.bool false) rfl (by kernel_rfl) (by kernel_rfl) (by kernel_rfl) (fun _ _ _ h => h) (Or.inl ⟨by rfl, ?_⟩) (by assumption) ?_
          · intro w hSw; go_simp
          simp only [Act.put, List.setIfInBounds_toArray, List.set_cons_zero, List.set_cons_succ]
          refine take_at 4 (.bool false) rfl (by kernel_rfl) (by kernel_rfl) (by kernel_rfl) (fun _ _ _ h => h) (Or.inl ⟨by rfl, ?_⟩) (by assumption) ?_
          · intro w hSw; go_simp
          simp only [Act.put, List.setIfInBounds_toArray, List.set_cons_zero, List.set_cons_succ]
          refine take_at 5 (.pointer (some ⟨w.heap.size, 0, none⟩)) rfl (by kernel_rfl) (by kernel_rfl) (by kernel_rfl) (fun _ _ _ h => h) (Or.inl ⟨by rfl, ?_⟩) (by assumption) ?_
          · intro w hSw; go_simp
          simp only [Act.put, List.setIfInBounds_toArray, List.set_cons_zero, List.set_cons_succ]
          refine take_at 7 (.slice (some ⟨b4, o4, none⟩) nn c4) rfl (by kernel_rfl) (by kernel_rfl) (by kernel_rfl) (fun _ _ _ h => h) (Or.inl ⟨by rfl, ?_⟩) (by assumption) ?_
          · intro w hSw; go_simp
          simp only [Act.put, List.setIfInBounds_toArray, List.set_cons_zero, List.set_cons_succ]
          refine take_at 8 (.int .i64 (nn : Int)) rfl (by kernel_rfl) (by kernel_rfl) (by kernel_rfl) (fun _ _ _ h => h) (Or.inl ⟨by rfl, ?_⟩) (by assumption) ?_
          · intro w hSw; go_simp
          simp only [Act.put, List.setIfInBounds_toArray, List.set_cons_zero, List.set_cons_succ]
          refine wpAnyH_ready (rs := [6]) (by kernel_rfl) (by simp) ?_
          refine AllReadyH.cons rfl (fun KK hK => ?_) AllReadyH.nil
          go_simp
          go_wp2_with (first | (go_at_call 15; refine (C2.out _ (by assumption)).mono ?_; rintro e w6 ⟨rfl, hb6⟩))
          refine hK.out _ _ ?_ (fun hHeld6 => ?_)
          · exact below_step (by assumption) hb6
          clear hK KK
          refine take_at 9 (.bool false) rfl (by kernel_rfl) (by kernel_rfl) (by kernel_rfl) (fun _ _ _ h => h) (Or.inl ⟨by rfl, ?_⟩) (by assumption) ?_
          · intro w hSw; go_simp
          simp only [Act.put, List.setIfInBounds_toArray, List.set_cons_zero, List.set_cons_succ]
          refine take_at 10 (.bool false) rfl (by kernel_rfl) (by kernel_rfl) (by kernel_rfl) (fun _ _ _ h => h) (Or.inl ⟨by rfl, ?_⟩) (by assumption) ?_
          · intro w hSw; go_simp
          simp only [Act.put, List.setIfInBounds_toArray, List.set_cons_zero, List.set_cons_succ]
          refine take_at 11 (.bool false) rfl (by kernel_rfl) (by kernel_rfl) (by kernel_rfl) (fun _ _ _ h => h) (Or.inl ⟨by rfl, ?_⟩) (by assumption) ?_
          · intro w hSw; go_simp
          simp only [Act.put, List.setIfInBounds_toArray, List.set_cons_zero, List.set_cons_succ]
          refine take_at 12 (.pointer (some ⟨w.heap.size, 0, none⟩)) rfl (by kernel_rfl) (by kernel_rfl) (by kernel_rfl) (fun _ _ _ h => h) (Or.inl ⟨by rfl, ?_⟩) (by assumption) ?_
          · intro w hSw; go_simp
          simp only [Act.put, List.setIfInBounds_toArray, List.set_cons_zero, List.set_cons_succ]
          refine take_at 14 (.slice (some ⟨b4, o4, none⟩) nn c4) rfl (by kernel_rfl) (by kernel_rfl) (by kernel_rfl) (fun _ _ _ h => h) (Or.inl ⟨by rfl, ?_⟩) (by assumption) ?_
          · intro w hSw; go_simp
          simp only [Act.put, List.setIfInBounds_toArray, List.set_cons_zero, List.set_cons_succ]
          refine wpAnyH_ready (rs := [13]) (by kernel_rfl) (by simp) ?_
          refine AllReadyH.cons rfl (fun KK hK => ?_) AllReadyH.nil
          go_simp
          go_wp2_with (first | (go_at_call 17; refine (C3.out _ (by assumption)).mono ?_; rintro e w13 ⟨⟨ai, ci, rfl, hai⟩, hb13⟩))
          refine hK.out _ _ ?_ (fun hHeld13 => ?_)
          · exact below_step (by assumption) hb13
          clear hK KK
          refine wpAnyH_ready (rs := [15]) (by kernel_rfl) (by simp) ?_
          refine AllReadyH.cons rfl (fun KK hK => ?_) AllReadyH.nil
          go_simp
          go_wp2_with (first | (go_at_call 16; refine (C4.out _ _ _ (by assumption) hai).mono ?_; rintro e w15 ⟨rfl, hb15⟩))
          refine hK.out _ _ ?_ (fun hHeld15 => ?_)
          · exact below_step (by assumption) hb15
          clear hK KK
          refine take_at 16 (.bool false) rfl (by kernel_rfl) (by kernel_rfl) (by kernel_rfl) (fun _ _ _ h => h) (Or.inl ⟨by rfl, ?_⟩) (by assumption) ?_
          · intro w hSw; go_simp
          simp only [Act.put, List.setIfInBounds_toArray, List.set_cons_zero, List.set_cons_succ]
          refine take_at 17 (.bool false) rfl (by kernel_rfl) (by kernel_rfl) (by kernel_rfl) (fun _ _ _ h => h) (Or.inl ⟨by rfl, ?_⟩) (by assumption) ?_
          · intro w hSw; go_simp
          simp only [Act.put, List.setIfInBounds_toArray, List.set_cons_zero, List.set_cons_succ]
          refine take_at 18 (.bool false) rfl (by kernel_rfl) (by kernel_rfl) (by kernel_rfl) (fun _ _ _ h => h) (Or.inl ⟨by rfl, ?_⟩) (by assumption) ?_
          · intro w hSw; go_simp
          simp only [Act.put, List.setIfInBounds_toArray, List.set_cons_zero, List.set_cons_succ]
          refine take_at 19 (.nilIface) rfl (by kernel_rfl) (by kernel_rfl) (by kernel_rfl) (fun _ _ _ h => h) (Or.inl ⟨by rfl, ?_⟩) (by assumption) ?_
          · intro w hSw; go_simp
          simp only [Act.put, List.setIfInBounds_toArray, List.set_cons_zero, List.set_cons_succ]
          refine take_at 20 (.bool true) rfl (by kernel_rfl) (by kernel_rfl) (by kernel_rfl) (fun _ _ _ h => h) (Or.inl ⟨by rfl, ?_⟩) (by assumption) ?_
          · intro w hSw; go_simp
          simp only [Act.put, List.setIfInBounds_toArray, List.set_cons_zero, List.set_cons_succ]
          refine take_at 21 (.slice (some ⟨b4, o4, none⟩) nn c4) rfl (by kernel_rfl) (by kernel_rfl) (by kernel_rfl) (fun _ _ _ h => h) (Or.inl ⟨by rfl, ?_⟩) (by assumption) ?_
          · intro w hSw; go_simp
          simp only [Act.put, List.setIfInBounds_toArray, List.set_cons_zero, List.set_cons_succ]
          refine take_at 22 (.int .i64 (nn : Int)) rfl (by kernel_rfl) (by kernel_rfl) (by kernel_rfl) (fun _ _ _ h => h) (Or.inl ⟨by rfl, ?_⟩) (by assumption) ?_
          · intro w hSw; go_simp
          simp only [Act.put, List.setIfInBounds_toArray, List.set_cons_zero, List.set_cons_succ]
          refine take_at 23 (.bool true) rfl (by kernel_rfl) (by kernel_rfl) (by kernel_rfl) (fun _ _ _ h => h) (Or.inl ⟨by rfl, ?_⟩) (by assumption) ?_
          · intro w hSw; go_simp
          simp only [Act.put, List.setIfInBounds_toArray, List.set_cons_zero, List.set_cons_succ]
          refine take_at 24 (.bool false) rfl (by kernel_rfl) (by kernel_rfl) (by kernel_rfl) (fun _ _ _ h => h) (Or.inl ⟨by rfl, ?_⟩) (by assumption) ?_
          · intro w hSw; go_simp
          simp only [Act.put, List.setIfInBounds_toArray, List.set_cons_zero, List.set_cons_succ]
          refine take_at 25 (.bool false) rfl (by kernel_rfl) (by kernel_rfl) (by kernel_rfl) (fun _ _ _ h => h) (Or.inl ⟨by rfl, ?_⟩) (by assumption) ?_
          · intro w hSw; go_simp
          simp only [Act.put, List.setIfInBounds_toArray, List.set_cons_zero, List.set_cons_succ]
          refine take_at 26 (.bool false) rfl (by kernel_rfl) (by kernel_rfl) (by kernel_rfl) (fun _ _ _ h => h) (Or.inl ⟨by rfl, ?_⟩) (by assumption) ?_
          · intro w hSw; go_simp
          simp only [Act.put, List.setIfInBounds_toArray, List.set_cons_zero, List.set_cons_succ]
          refine take_at 27 (.nilIface) rfl (by kernel_rfl) (by kernel_rfl) (by kernel_rfl) (fun _ _ _ h => h) (Or.inl ⟨by rfl, ?_⟩) (by assumption) ?_
          · intro w hSw; go_simp
          simp only [Act.put, List.setIfInBounds_toArray, List.set_cons_zero, List.set_cons_succ]
          refine take_at 28 (.bool true) rfl (by kernel_rfl) (by kernel_rfl) (by kernel_rfl) (fun _ _ _ h => h) (Or.inl ⟨by rfl, ?_⟩) (by assumption) ?_
          · intro w hSw; go_simp
          simp only [Act.put, List.setIfInBounds_toArray, List.set_cons_zero, List.set_cons_succ]
          refine take_at 29 (.bool true) rfl (by kernel_rfl) (by kernel_rfl) (by kernel_rfl) (fun _ _ _ h => h) (Or.inl ⟨by rfl, ?_⟩) (by assumption) ?_
          · intro w hSw; go_simp
          simp only [Act.put, List.setIfInBounds_toArray, List.set_cons_zero, List.set_cons_succ]
          refine take_at 30 (.agg #[.int .i64 xi, .int .i64 xr]) rfl (by kernel_rfl) (by kernel_rfl) (by kernel_rfl) (fun _ _ _ h => h) (Or.inl ⟨by rfl, ?_⟩) (by assumption) ?_
          · intro w hSw; go_simp
          simp only [Act.put, List.setIfInBounds_toArray, List.set_cons_zero, List.set_cons_succ]
          refine take_at 31 (.slice (some ⟨b4, o4, none⟩) nn c4) rfl (by kernel_rfl) (by kernel_rfl) (by kernel_rfl) (fun _ _ _ h => h) (Or.inl ⟨by rfl, ?_⟩) (by assumption) ?_
          · intro w hSw; go_simp
          simp only [Act.put, List.setIfInBounds_toArray, List.set_cons_zero, List.set_cons_succ]
          refine take_at 32 (.pointer (some ⟨b4, o4, none⟩)) rfl (by kernel_rfl) (by kernel_rfl) (by kernel_rfl) (fun _ _ _ h => h) (Or.inl ⟨by rfl, ?_⟩) (by assumption) ?_
          · intro w hSw; go_simp
          simp only [Act.put, List.setIfInBounds_toArray, List.set_cons_zero, List.set_cons_succ]
          refine take_at 33 (.agg #[.int .i64 xi, .int .i64 xr]) rfl (by kernel_rfl) (by kernel_rfl) (by kernel_rfl) (fun _ _ _ h => h) (Or.inl ⟨by rfl, ?_⟩) (by assumption) ?_
          · intro w hSw; go_simp
          simp only [Act.put, List.setIfInBounds_toArray, List.set_cons_zero, List.set_cons_succ]
          refine take_at 34 (.bool false) rfl (by kernel_rfl) (by kernel_rfl) (by kernel_rfl) (fun _ _ _ h => h) (Or.inl ⟨by rfl, ?_⟩) (by assumption) ?_
          · intro w hSw; go_simp
          simp only [Act.put, List.setIfInBounds_toArray, List.set_cons_zero, List.set_cons_succ]
          refine take_at 35 (.bool false) rfl (by kernel_rfl) (by kernel_rfl) (by kernel_rfl) (fun _ _ _ h => h) (Or.inl ⟨by rfl, ?_⟩) (by assumption) ?_
          · intro w hSw; go_simp
          simp only [Act.put, List.setIfInBounds_toArray, List.set_cons_zero, List.set_cons_succ]
          refine take_at 36 (.bool false) rfl (by kernel_rfl) (by kernel_rfl) (by kernel_rfl) (fun _ _ _ h => h) (Or.inl ⟨by rfl, ?_⟩) (by assumption) ?_
          · intro w hSw; go_simp
          simp only [Act.put, List.setIfInBounds_toArray, List.set_cons_zero, List.set_cons_succ]
          refine take_at 37 (.bool false) rfl (by kernel_rfl) (by kernel_rfl) (by kernel_rfl) (fun _ _ _ h => h) (Or.inl ⟨by rfl, ?_⟩) (by assumption) ?_
          · intro w hSw; go_simp
          simp only [Act.put, List.setIfInBounds_toArray, List.set_cons_zero, List.set_cons_succ]
          refine take_at 38 (.nilIface) rfl (by kernel_rfl) (by kernel_rfl) (by kernel_rfl) (fun _ _ _ h => h) (Or.inl ⟨by rfl, ?_⟩) (by assumption) ?_
          · intro w hSw; go_simp
          simp only [Act.put, List.setIfInBounds_toArray, List.set_cons_zero, List.set_cons_succ]
          refine take_at 39 (.bool false) rfl (by kernel_rfl) (by kernel_rfl) (by kernel_rfl) (fun _ _ _ h => h) (Or.inl ⟨by rfl, ?_⟩) (by assumption) ?_
          · intro w hSw; go_simp
          simp only [Act.put, List.setIfInBounds_toArray, List.set_cons_zero, List.set_cons_succ]
          refine take_at 40 (.bool false) rfl (by kernel_rfl) (by kernel_rfl) (by kernel_rfl) (fun _ _ _ h => h) (Or.inl ⟨by rfl, ?_⟩) (by assumption) ?_
          · intro w hSw; go_simp
          simp only [Act.put, List.setIfInBounds_toArray, List.set_cons_zero, List.set_cons_succ]
          refine take_at 41 undef rfl (by kernel_rfl) (by kernel_rfl) (by kernel_rfl) (fun _ _ _ h => h) (Or.inr ⟨by rfl, rfl⟩) (by assumption) ?_
          simp only [Act.put, List.setIfInBounds_toArray, List.set_cons_zero, List.set_cons_succ]
          refine take_at 42 undef rfl (by kernel_rfl) (by kernel_rfl) (by kernel_rfl) (fun _ _ _ h => h) (Or.inr ⟨by rfl, rfl⟩) (by assumption) ?_
          simp only [Act.put, List.setIfInBounds_toArray, List.set_cons_zero, List.set_cons_succ]
          refine take_at 43 undef rfl (by kernel_rfl) (by kernel_rfl) (by kernel_rfl) (fun _ _ _ h => h) (Or.inr ⟨by rfl, rfl⟩) (by assumption) ?_
          simp only [Act.put, List.setIfInBounds_toArray, List.set_cons_zero, List.set_cons_succ]
          refine take_at 44 undef rfl (by kernel_rfl) (by kernel_rfl) (by kernel_rfl) (fun _ _ _ h => h) (Or.inr ⟨by rfl, rfl⟩) (by assumption) ?_
          simp only [Act.put, List.setIfInBounds_toArray, List.set_cons_zero, List.set_cons_succ]
          refine take_at 45 undef rfl (by kernel_rfl) (by kernel_rfl) (by kernel_rfl) (fun _ _ _ h => h) (Or.inr ⟨by rfl, rfl⟩) (by assumption) ?_
          simp only [Act.put, List.setIfInBounds_toArray, List.set_cons_zero, List.set_cons_succ]
          refine take_at 46 undef rfl (by kernel_rfl) (by kernel_rfl) (by kernel_rfl) (fun _ _ _ h => h) (Or.inr ⟨by rfl, rfl⟩) (by assumption) ?_
          simp only [Act.put, List.setIfInBounds_toArray, List.set_cons_zero, List.set_cons_succ]
          refine take_at 47 undef rfl (by kernel_rfl) (by kernel_rfl) (by kernel_rfl) (fun _ _ _ h => h) (Or.inr ⟨by rfl, rfl⟩) (by assumption) ?_
          simp only [Act.put, List.setIfInBounds_toArray, List.set_cons_zero, List.set_cons_succ]
          refine take_at 48 undef rfl (by kernel_rfl) (by kernel_rfl) (by kernel_rfl) (fun _ _ _ h => h) (Or.inr ⟨by rfl, rfl⟩) (by assumption) ?_
          simp only [Act.put, List.setIfInBounds_toArray, List.set_cons_zero, List.set_cons_succ]
          refine take_at 49 (.bool false) rfl (by kernel_rfl) (by kernel_rfl) (by kernel_rfl) (fun _ _ _ h => h) (Or.inl ⟨by rfl, ?_⟩) (by assumption) ?_
          · intro w hSw; go_simp
          simp only [Act.put, List.setIfInBounds_toArray, List.set_cons_zero, List.set_cons_succ]
          refine take_at 50 (.bool false) rfl (by kernel_rfl) (by kernel_rfl) (by kernel_rfl) (fun _ _ _ h => h) (Or.inl ⟨by rfl, ?_⟩) (by assumption) ?_
          · intro w hSw; go_simp
          simp only [Act.put, List.setIfInBounds_toArray, List.set_cons_zero, List.set_cons_succ]
          refine wpAnyH_done (by kernel_rfl) ?_ _
          refine NoPanic.normal ?_
          clear C1 C2 C3 C4 x0 x1 hEQ
          go_wp2_with fail
          go_roundg (n - i)
          case measure => omega
          case rel => exact ⟨i + 1, by omega, by omega, by go_num, HF.out _ (by assumption)⟩
    · obtain rfl : i = n := by omega
      obtain ⟨_, _, _, _, _, _, _, _, _, _, hbw⟩ := H.out
      have HB := Lib.hid hbw
      clear hbw H hgh
      have hdec : ((i : Int) < (L : Int) ∧ ¬ (i : Int) < 200) ∨ ¬ (i : Int) < (L : Int) := by omega
      obtain ⟨tt, htt⟩ : ∃ tt : Prop, tt = True := ⟨_, rfl⟩
      rcases hdec with ⟨h1, h2⟩ | h1
      · go_wp2_with fail
        refine (pop_nil _).mono ?_
        rintro e w2 ⟨rfl, hb2⟩
        obtain ⟨W3, hW3⟩ : ∃ W3, W3 = w2.alloc (.cells #[.int .i64 0, .int .i64 0] 37) := ⟨_, rfl⟩
        have hbX : Below w2.heap.size w2 W3 := by rw [hW3]; exact below_item w2
        have HB3 := Lib.hid (below_step (below_step HB.out hb2) hbX)
        have HW3 := Lib.hid hW3
        clear hb2 hbX hW3
        unfold errE
        go_wp2_with fail
        rw [← HW3.out]
        refine (num11 8 W3 (HE.out.on HB3.out)).mono ?_
        rintro e w4 ⟨rfl, hb4⟩
        have HB4 := Lib.hid (below_step HB3.out hb4)
        clear hb4
        go_wp2_with fail
        refine (push_nilq 1 1 _).mono ?_
        rintro e w5 ⟨rfl, rfl⟩
        unfold errE
        go_wp2_with fail
        refine (num11 8 _ (HE.out.on HB4.out)).mono ?_
        rintro e w6 ⟨rfl, hb6⟩
        have HB6 := Lib.hid (below_step HB4.out hb6)
        clear hb6
        go_wp2_with fail
        refine (move_nil 1 1 _).mono ?_
        rintro e w7 ⟨rfl, rfl⟩
        unfold errE
        go_wp2_with fail
        refine (num11 8 _ (HE.out.on HB6.out)).mono ?_
        rintro e w8 ⟨rfl, hb8⟩
        have HB8 := Lib.hid (below_step HB6.out hb8)
        clear hb8
        go_wp2_with fail
        refine (drop_nil 1 _).mono ?_
        rintro e w9 ⟨rfl, rfl⟩
        unfold errE
        go_wp2_with fail
        refine (num11 8 _ (HE.out.on HB8.out)).mono ?_
        rintro e w10 ⟨rfl, hb10⟩
        have HB10 := Lib.hid (below_step HB8.out hb10)
        clear hb10
        go_wp2_with fail
        refine (qlen_nil _).mono ?_
        rintro e w11 ⟨rfl, rfl⟩
        go_wp2_with fail
        refine (all_nilq _).mono ?_
        rintro e w12 ⟨rfl, rfl⟩
        go_wp2_with fail
        refine (sure_ _).mono ?_
        rintro e w13 ⟨rfl, hb13⟩
        have HB13 := Lib.hid (below_step HB10.out hb13)
        clear hb13
        go_wp2_with fail
        go_ret
        exact ⟨rfl, HB13.out⟩
      · go_wp2_with fail
        refine (pop_nil _).mono ?_
        rintro e w2 ⟨rfl, hb2⟩
        obtain ⟨W3, hW3⟩ : ∃ W3, W3 = w2.alloc (.cells #[.int .i64 0, .int .i64 0] 37) := ⟨_, rfl⟩
        have hbX : Below w2.heap.size w2 W3 := by rw [hW3]; exact below_item w2
        have HB3 := Lib.hid (below_step (below_step HB.out hb2) hbX)
        have HW3 := Lib.hid hW3
        clear hb2 hbX hW3
        unfold errE
        go_wp2_with fail
        rw [← HW3.out]
        refine (num11 8 W3 (HE.out.on HB3.out)).mono ?_
        rintro e w4 ⟨rfl, hb4⟩
        have HB4 := Lib.hid (below_step HB3.out hb4)
        clear hb4
        go_wp2_with fail
        refine (push_nilq 1 1 _).mono ?_
        rintro e w5 ⟨rfl, rfl⟩
        unfold errE
        go_wp2_with fail
        refine (num11 8 _ (HE.out.on HB4.out)).mono ?_
        rintro e w6 ⟨rfl, hb6⟩
        have HB6 := Lib.hid (below_step HB4.out hb6)
        clear hb6
        go_wp2_with fail
        refine (move_nil 1 1 _).mono ?_
        rintro e w7 ⟨rfl, rfl⟩
        unfold errE
        go_wp2_with fail
        refine (num11 8 _ (HE.out.on HB6.out)).mono ?_
        rintro e w8 ⟨rfl, hb8⟩
        have HB8 := Lib.hid (below_step HB6.out hb8)
        clear hb8
        go_wp2_with fail
        refine (drop_nil 1 _).mono ?_
        rintro e w9 ⟨rfl, rfl⟩
        unfold errE
        go_wp2_with fail
        refine (num11 8 _ (HE.out.on HB8.out)).mono ?_
        rintro e w10 ⟨rfl, hb10⟩
        have HB10 := Lib.hid (below_step HB8.out hb10)
        clear hb10
        go_wp2_with fail
        refine (qlen_nil _).mono ?_
        rintro e w11 ⟨rfl, rfl⟩
        go_wp2_with fail
        refine (all_nilq _).mono ?_
        rintro e w12 ⟨rfl, rfl⟩
        go_wp2_with fail
        refine (sure_ _).mono ?_
        rintro e w13 ⟨rfl, hb13⟩
        have HB13 := Lib.hid (below_step HB10.out hb13)
        clear hb13
        go_wp2_with fail
        go_ret
        exact ⟨rfl, HB13.out⟩
end Go.Proofs.YtnkdhipeklphaaaDoor
