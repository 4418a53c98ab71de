/- The walk of the law PackLays. -/
import Derived.Test.YtjchmpfncieegaaSure
import Derived.Test.YtjchmpfncieegaaRef
import Derived.Deep.RegionHeld3
namespace Go.Proofs.Ytjchmpfncieegaa
open Go.RowKit Go.Sort

theorem below_step {W w w' : World} (h : Below W.heap.size W w) (hb : Below w.heap.size w w') : Below W.heap.size W w' := h.trans (hb.mono h.size)
theorem below_drew (W : World) : Below W.heap.size W W.drew := (Below.refl _ _).drew
/-- What a call that lays something hands back, as it is read. -/
def Told (w : World) (s : ByteArray) (l : Nat) (e : Ending) (w' : World) : Prop :=
  ∃ g c, e = .returned (.slice (some ⟨g, 0, none⟩) l c) ∧ (convert 22 9 (.slice (some ⟨g, 0, none⟩) l c)).run Try.prog w' = .ok (.string s) w' ∧ Below w.heap.size w w'
theorem told_of {w : World} {xs : List Nat} {s : ByteArray} {l : Nat} {e : Ending} {w' : World} (hs : bs xs = s) (hl : xs.length = l) (h : Laid w xs e w') : Told w s l e w' := by
  subst hs hl
  obtain ⟨g, c, e1, h1, h2⟩ := h
  exact ⟨g, c, e1, conv_ w' _ _ c xs rfl h1.cells.2.1, h2⟩

set_option maxRecDepth 100000 in
set_option maxHeartbeats 4000000 in
theorem lays_ (a : Option Addr) (xs : List Nat) (c : Nat) (n : Int) (s : ByteArray) (w : World) (h : BytesIn w a xs) (hc : a = none → c = 0) (hlim : xs.length ≤ 140737488351232) (hs : s.size ≤ 140737488351232)
    (h0 : -9223372036854775808 ≤ n) (h1 : n ≤ 9223372036854775807) :
    Calls Try.prog 3 #[.slice a xs.length c, .int .i64 n, .string s] w fun e w' => e = .returned (.bool true) ∧ Below w.heap.size w w' := by
  obtain ⟨un, hun, hun2⟩ : ∃ un : Nat, IntKind.u64.wrap n = (un : Int) ∧ un < 18446744073709551616 := ⟨(n % 18446744073709551616).toNat, by rw [IntKind.wrap_u64]; omega, by omega⟩
  have hel := enc_le10 un hun2
  have hzl := enc_le10 (zz n) (zz_lt n h0 h1)
  have hsl := enc_le10 s.size (by omega)
  have HT := Lib.hid (twin_ a xs c w h hc (by omega))
  have HX : Hid (∀ W, BytesIn W (some ⟨w.heap.size, 0, none⟩) xs → Calls Try.prog 7 #[.slice (some ⟨w.heap.size, 0, none⟩) xs.length (xs.length + 30), .int .u64 un] W (Laid W (xs ++ enc un))) := fun W hW => appU_ _ xs _ un _ W rfl hW (fun hh => by cases hh) hun2 (by omega)
  have HY : Hid (∀ W, BytesIn W (some ⟨w.heap.size, 0, none⟩) xs → Calls Try.prog 8 #[.slice (some ⟨w.heap.size, 0, none⟩) xs.length (xs.length + 30), .int .i64 n] W (Laid W (xs ++ enc (zz n)))) := fun W hW => appI_ _ xs _ _ n W rfl hW (fun hh => by cases hh) h0 h1 (by omega)
  have HZ : Hid (∀ W, BytesIn W (some ⟨w.heap.size, 0, none⟩) xs → Calls Try.prog 9 #[.slice (some ⟨w.heap.size, 0, none⟩) xs.length (xs.length + 30), .string s] W (Laid W (xs ++ enc s.size ++ sb s))) := fun W hW => appT_ _ xs _ _ s W rfl hW (fun hh => by cases hh) (by omega)
  obtain ⟨su, hsu⟩ : ∃ su, bs (enc un) = su := ⟨_, rfl⟩
  obtain ⟨si, hsi⟩ : ∃ si, bs (enc (zz n)) = si := ⟨_, rfl⟩
  obtain ⟨st, hst⟩ : ∃ st, bs (enc s.size ++ sb s) = st := ⟨_, rfl⟩
  obtain ⟨s0, hs0⟩ : ∃ s0, bs xs = s0 := ⟨_, rfl⟩
  have ex : bs (xs ++ enc un) = s0 ++ su := by rw [← bs_append, hsu, hs0]
  have ey : bs (xs ++ enc (zz n)) = s0 ++ si := by rw [← bs_append, hsi, hs0]
  have ez : bs (xs ++ enc s.size ++ sb s) = s0 ++ st := by rw [List.append_assoc, ← bs_append, hst, hs0]
  have z0 : s0.size = xs.length := by rw [← hs0, bs_size]
  have zu : su.size ≤ 10 := by rw [← hsu, bs_size]; exact hel
  have zi : si.size ≤ 10 := by rw [← hsi, bs_size]; exact hzl
  have zt : st.size ≤ 140737488351242 := by rw [← hst, bs_size, List.length_append, sb_length]; omega
  have HU : Hid (∀ W, Calls Try.prog 10 #[.int .u64 un] W (Told W su (enc un).length)) := fun W => (uints_ un W hun2).mono fun e w' hh => told_of hsu rfl hh
  have HI : Hid (∀ W, Calls Try.prog 11 #[.int .i64 n] W (Told W si (enc (zz n)).length)) := fun W => (ints_ n W h0 h1).mono fun e w' hh => told_of hsi rfl hh
  have HS : Hid (∀ W, Calls Try.prog 12 #[.string s] W (Told W st (enc s.size ++ sb s).length)) := fun W => (texts_ s W (by omega)).mono fun e w' hh => told_of hst rfl hh
  have HL : Hid (∀ W, Calls Try.prog 13 #[.int .u64 un] W fun e w' => e = .returned (.int .i64 (enc un).length) ∧ w' = W) := fun W => len_ un W hun2
  have HSU : Hid (∀ W, Calls Try.prog 14 #[] W fun e w' => e = .returned (.bool true) ∧ Below W.heap.size W w') := sure_
  have HB := Lib.hid h
  have HX0 := Lib.hid hs0
  generalize xs ++ enc un = X at *
  generalize xs ++ enc (zz n) = Y at *
  generalize xs ++ enc s.size ++ sb s = Z at *
  generalize (enc un).length = lu at *
  generalize (enc (zz n)).length = li at *
  generalize (enc s.size ++ sb s).length = lt at *
  have HEX := Lib.hid ex
  have HEY := Lib.hid ey
  have HEZ := Lib.hid ez
  clear ex ey ez hsu hsi hst hs0 h hc hsl hzl
  have HXL : Hid (xs.length = xs.length) := Lib.hid rfl
  generalize hxl : xs.length = len at *
  go_enter Try.func3, Try.ntmps3
  go_wp2_with fail
  refine HT.out.mono ?_
  rintro e W1 ⟨rfl, hO1, hb1⟩
  have hm1 := hO1.cells.2.1
  have Hm1 := Lib.hid hm1
  have Hb1 := Lib.hid hb1
  clear hO1 hm1 hb1 HT
  go_wp2_with fail
  refine (HX.out W1 Hm1.out).mono ?_
  rintro e W2 ⟨gx, cx, rfl, hO2, hb2⟩
  have Hx2 := Lib.hid (hO2.cells.2.1)
  have Hb2 := Lib.hid hb2
  clear hO2 hb2 HX
  go_wp2_with fail
  refine (HY.out W2 (Hm1.out.on Hb2.out)).mono ?_
  rintro e W3 ⟨gy, cy, rfl, hO3, hb3⟩
  have Hy3 := Lib.hid (hO3.cells.2.1)
  have Hb3 := Lib.hid hb3
  clear hO3 hb3 HY
  go_wp2_with fail
  refine (HZ.out W3 ((Hm1.out.on Hb2.out).on Hb3.out)).mono ?_
  rintro e W4 ⟨gz, cz, rfl, hO4, hb4⟩
  have Hz4 := Lib.hid (hO4.cells.2.1)
  have Hb4 := Lib.hid hb4
  clear hO4 hb4 HZ
  have Cb : ∀ W', Below W4.heap.size W4 W' → (convert 22 9 (.slice a len c)).run Try.prog W' = .ok (.string s0) W' := fun W' hW => by
    rw [← HX0.out]
    exact conv_ W' a len c xs hxl.symm (HB.out.on (below_step (below_step (below_step (below_step Hb1.out Hb2.out) Hb3.out) Hb4.out) hW))
  have Cm : ∀ W', Below W4.heap.size W4 W' → (convert 22 9 (.slice (some ⟨w.heap.size, 0, none⟩) len (len + 30))).run Try.prog W' = .ok (.string s0) W' := fun W' hW => by
    rw [← HX0.out]
    exact conv_ W' _ len _ xs hxl.symm (Hm1.out.on (below_step (below_step (below_step Hb2.out Hb3.out) Hb4.out) hW))
  have Cx : ∀ W', Below W4.heap.size W4 W' → (convert 22 9 (.slice (some ⟨gx, 0, none⟩) X.length cx)).run Try.prog W' = .ok (.string (s0 ++ su)) W' := fun W' hW => by
    rw [← HEX.out]
    exact conv_ W' _ _ cx X rfl (Hx2.out.on (below_step (below_step Hb3.out Hb4.out) hW))
  have Cy : ∀ W', Below W4.heap.size W4 W' → (convert 22 9 (.slice (some ⟨gy, 0, none⟩) Y.length cy)).run Try.prog W' = .ok (.string (s0 ++ si)) W' := fun W' hW => by
    rw [← HEY.out]
    exact conv_ W' _ _ cy Y rfl (Hy3.out.on (below_step Hb4.out hW))
  have Cz : ∀ W', Below W4.heap.size W4 W' → (convert 22 9 (.slice (some ⟨gz, 0, none⟩) Z.length cz)).run Try.prog W' = .ok (.string (s0 ++ st)) W' := fun W' hW => by
    rw [← HEZ.out]
    exact conv_ W' _ _ cz Z rfl (Hz4.out.on hW)
  have HbA := Lib.hid (below_step (below_step (below_step Hb1.out Hb2.out) Hb3.out) Hb4.out)
  clear Hb1 Hb2 Hb3 Hb4 Hm1 Hx2 Hy3 Hz4 HEX HEY HEZ HX0 HB HXL hxl
  generalize X.length = lx at *
  generalize Y.length = ly at *
  generalize Z.length = lz at *
  go_wp2_with fail
  refine wp_region_noPanic ?_
  go_region_held (fun W' => Below W4.heap.size W4 W') (first | assumption | exact below_drew _ | exact below_step (by assumption) (by assumption))
    (first
      | (go_at_call 10; refine (HU.out _).mono ?_; rintro e w' ⟨g, c', rfl, hcv, hb⟩)
      | (go_at_call 11; refine (HI.out _).mono ?_; rintro e w' ⟨g, c', rfl, hcv, hb⟩)
      | (go_at_call 12; refine (HS.out _).mono ?_; rintro e w' ⟨g, c', rfl, hcv, hb⟩))
  refine NoPanic.normal ?_
  rename World => W5
  have hbE : Below W4.heap.size W4 W5 := by assumption
  have Cb5 := Cb _ hbE
  have Cm5 := Cm _ hbE
  have Hb5 := Lib.hid (below_step HbA.out hbE)
  clear Cb Cm Cx Cy Cz HbA hbE HI HS
  go_wp2_with fail
  refine (HL.out _).mono ?_
  rintro e W6 ⟨rfl, rfl⟩
  go_wp2_with fail
  refine (HU.out _).mono ?_
  rintro e W7 ⟨g, c', rfl, _, hb7⟩
  have Hb7 := Lib.hid (below_step Hb5.out hb7)
  clear Hb5 hb7
  go_wp2_with fail
  refine (HSU.out _).mono ?_
  rintro e W8 ⟨rfl, hb8⟩
  have Hb8 := Lib.hid (below_step Hb7.out hb8)
  clear Hb7 hb8
  go_wp2_with fail
  go_ret
  exact ⟨rfl, Hb8.out⟩
end Go.Proofs.Ytjchmpfncieegaa
