/- The document's Both and Load. -/
import Derived.Test.YthaihallfjjnpaaGreatDoorQ2
namespace Go.Proofs.YthaihallfjjnpaaGreatDoor
open Go.RowKit Go.Sort Go.Maps

/-- What the document's Both tells. -/
def bN (d : Dev) (a : Ar) (h : Nat) : Nat := if lookE d a = 0 then numA d a h else 0
def bT (d : Dev) (a : Ar) (h : Nat) : List Nat := if lookE d a = 0 then txtA d a h else []
/-- A device of the document's that is tied to one. -/
structure Rdv (w : World) (x : RD) (al : Option Addr) (cl : Nat) (d : Dev) : Prop where
  ls : LstS w al cl x.l
  tie : Tie d x
  ok : okD d
  len : x.l.length ≤ 1000
  lim : 1 ≤ d.r ∧ d.r ≤ 16 ∧ 1 ≤ d.s ∧ d.s ≤ 16384
theorem Rdv.on {w w' : World} {x : RD} {al : Option Addr} {cl : Nat} {d : Dev} (h : Rdv w x al cl d) (hb : Below w.heap.size w w') : Rdv w' x al cl d := ⟨h.ls.on hb, h.tie, h.ok, h.len, h.lim⟩
theorem results_tmp5 {fn : Func} {t u v x y : Tmp} (h : fn.results = #[.tmp t, .tmp u, .tmp v, .tmp x, .tmp y]) (tmps : Array Value) (P : Program) (w : World) : (results fn tmps).run P w = .ok (.tuple #[tmps.getD t undef, tmps.getD u undef, tmps.getD v undef, tmps.getD x undef, tmps.getD y undef]) w := by
  simp only [results, h]
  simp
set_option maxRecDepth 100000 in
set_option maxHeartbeats 2000000 in
theorem rboth_out {w : World} (x : RD) (al : Option Addr) (cl : Nat) (d : Dev) (a : Ar) (h : Rdv w x al cl d) (hr : inR a) (hin : ¬ inA d a) :
    Calls Tryz.prog 10 #[rdV x al cl, arV a] w fun e w' => e = .returned (.tuple #[.int .u64 (bN d a 0 : Nat), .string (bs (bT d a 0)), .int .u64 (bN d a 1 : Nat), .string (bs (bT d a 1)), .int .i64 (lookE d a : Nat)]) ∧ Below w.heap.size w w' := by
  obtain ⟨x1, x2, x3⟩ := rdW_at w x al cl a
  have HC := Lib.hid (fun V => rcheck_ x al cl d a V h.tie h.lim hr)
  have hrdV : rdV x al cl = .agg #[.int .i64 x.r, .int .i64 x.s, .slice al x.l.length cl, .bool x.crashed, .bool x.armed, .int .i64 x.left] := rfl
  have hrdC : rdC x al x.l.length cl = #[.int .i64 x.r, .int .i64 x.s, .slice al x.l.length cl, .bool x.crashed, .bool x.armed, .int .i64 x.left] := rfl
  unfold rdW at x1 x2 x3
  rw [hrdC] at x1 x2 x3
  rw [hrdV] at HC ⊢
  have HX := Lib.hid (And.intro x1 (And.intro x2 x3))
  have hE : lookE d a = 1 := if_pos hin
  have h0 : ∀ i, bN d a i = 0 ∧ bT d a i = [] := fun i => ⟨if_neg (by rw [hE]; decide), if_neg (by rw [hE]; decide)⟩
  rw [hE, (h0 0).1, (h0 0).2, (h0 1).1, (h0 1).2]
  simp only [if_neg hin] at HC
  clear hin hE h0
  clear x1 x2 x3 h hr hrdV hrdC
  generalize x.l.length = L at *
  generalize x.r = xr at *
  generalize x.s = xs' at *
  generalize x.crashed = xc at *
  generalize x.armed = xa at *
  generalize x.left = xf at *
  unfold arV at *
  generalize hV : (w.alloc (.cells #[.int .i64 xr, .int .i64 xs', .slice al L cl, .bool xc, .bool xa, .int .i64 xf] 32)).alloc (.cells #[.int .i64 a.g, .int .i64 a.f, .int .i64 a.s] 23) = V at *
  have HV := Lib.hid hV
  clear hV
  have FR : Hid (∀ U, Below V.heap.size V U → (Instr.loadAt 32 (.pointer (some ⟨w.heap.size, 0, none⟩))).run Tryz.prog U = .ok (.agg #[.int .i64 xr, .int .i64 xs', .slice al L cl, .bool xc, .bool xa, .int .i64 xf]) U) := fun U hU => load_rd ((hU.block _ (blk_lt HX.out.1)).trans HX.out.1) rfl
  have FA : Hid (∀ U, Below V.heap.size V U → U.cell? ⟨w.heap.size + 1, 0, none⟩ = some (.int .i64 a.g) ∧ U.cell? ⟨w.heap.size + 1, 1, none⟩ = some (.int .i64 a.f) ∧ U.cell? ⟨w.heap.size + 1, 2, none⟩ = some (.int .i64 a.s)) := fun U hU => (HX.out.2.1.on hU).cells
  obtain ⟨y0, y1, y2⟩ := FA.out V (Below.refl _ _)
  go_enter Tryz.func10, Tryz.ntmps10
  go_wp2_with fail
  rw [HV.out]
  refine (HC.out V).mono ?_
  rintro e w1 ⟨rfl, hb1⟩
  have HB1 := Lib.hid hb1
  clear hb1 y0 y1 y2 HC
  go_wp2_with fail
  refine bodyPost_ret (results_tmp5 rfl _ _ _) rfl ?_
  exact ⟨rfl, below_step HX.out.2.2 HB1.out⟩
set_option maxRecDepth 100000 in
set_option maxHeartbeats 2000000 in
theorem rboth_crash {w : World} (x : RD) (al : Option Addr) (cl : Nat) (d : Dev) (a : Ar) (h : Rdv w x al cl d) (hr : inR a) (hin : inA d a) (hc : d.crashed = true) :
    Calls Tryz.prog 10 #[rdV x al cl, arV a] w fun e w' => e = .returned (.tuple #[.int .u64 (bN d a 0 : Nat), .string (bs (bT d a 0)), .int .u64 (bN d a 1 : Nat), .string (bs (bT d a 1)), .int .i64 (lookE d a : Nat)]) ∧ Below w.heap.size w w' := by
  obtain ⟨x1, x2, x3⟩ := rdW_at w x al cl a
  have HC := Lib.hid (fun V => rcheck_ x al cl d a V h.tie h.lim hr)
  have HH : Hid (∀ V (i : Nat), i < 2 → Below w.heap.size w V → Calls Tryz.prog 27 #[rdV x al cl, arV a, .int .i64 (i : Int)] V fun e w' => e = .returned (.tuple #[.string (if d.crashed = true then bs [] else bs (halfA d a i)), .int .i64 (if d.crashed = true then 60 else 0)]) ∧ Below V.heap.size V w') := fun V i hi hV => rhalf_ x al cl d a i hi (h.ls.on hV) h.tie h.ok h.len h.lim hin
  have hrdV : rdV x al cl = .agg #[.int .i64 x.r, .int .i64 x.s, .slice al x.l.length cl, .bool x.crashed, .bool x.armed, .int .i64 x.left] := rfl
  have hrdC : rdC x al x.l.length cl = #[.int .i64 x.r, .int .i64 x.s, .slice al x.l.length cl, .bool x.crashed, .bool x.armed, .int .i64 x.left] := rfl
  unfold rdW at x1 x2 x3
  rw [hrdC] at x1 x2 x3
  rw [hrdV] at HC ⊢
  simp only [hrdV] at HH
  have HX := Lib.hid (And.intro x1 (And.intro x2 x3))
  have hE : lookE d a = 60 := by unfold lookE; rw [if_neg (fun e => e hin), if_pos hc]
  have h0 : ∀ i, bN d a i = 0 ∧ bT d a i = [] := fun i => ⟨if_neg (by rw [hE]; decide), if_neg (by rw [hE]; decide)⟩
  rw [hE, (h0 0).1, (h0 0).2, (h0 1).1, (h0 1).2]
  simp only [if_pos hin] at HC
  simp only [hc, if_true] at HH
  have e00 : bs [] = ⟨#[]⟩ := rfl
  clear hin hE h0 hc
  clear x1 x2 x3 h hr hrdV hrdC
  generalize x.l.length = L at *
  generalize x.r = xr at *
  generalize x.s = xs' at *
  generalize x.crashed = xc at *
  generalize x.armed = xa at *
  generalize x.left = xf at *
  unfold arV at *
  generalize hV : (w.alloc (.cells #[.int .i64 xr, .int .i64 xs', .slice al L cl, .bool xc, .bool xa, .int .i64 xf] 32)).alloc (.cells #[.int .i64 a.g, .int .i64 a.f, .int .i64 a.s] 23) = V at *
  have HV := Lib.hid hV
  clear hV
  have FR : Hid (∀ U, Below V.heap.size V U → (Instr.loadAt 32 (.pointer (some ⟨w.heap.size, 0, none⟩))).run Tryz.prog U = .ok (.agg #[.int .i64 xr, .int .i64 xs', .slice al L cl, .bool xc, .bool xa, .int .i64 xf]) U) := fun U hU => load_rd ((hU.block _ (blk_lt HX.out.1)).trans HX.out.1) rfl
  have FA : Hid (∀ U, Below V.heap.size V U → U.cell? ⟨w.heap.size + 1, 0, none⟩ = some (.int .i64 a.g) ∧ U.cell? ⟨w.heap.size + 1, 1, none⟩ = some (.int .i64 a.f) ∧ U.cell? ⟨w.heap.size + 1, 2, none⟩ = some (.int .i64 a.s)) := fun U hU => (HX.out.2.1.on hU).cells
  obtain ⟨y0, y1, y2⟩ := FA.out V (Below.refl _ _)
  go_enter Tryz.func10, Tryz.ntmps10
  go_wp2_with fail
  rw [HV.out]
  refine (HC.out V).mono ?_
  rintro e w1 ⟨rfl, hb1⟩
  have HB1 := Lib.hid hb1
  clear hb1 y0 y1 y2 HC
  obtain ⟨y0, y1, y2⟩ := FA.out w1 HB1.out
  have HL1 := Lib.hid (FR.out w1 HB1.out)
  go_wp2_with (first | (refine wpList_load_at rfl 32 _ rfl _ _ rfl HL1.out ?_) | fail)
  refine (HH.out w1 0 (by omega) (below_step HX.out.2.2 HB1.out)).mono ?_
  rintro e w2 ⟨rfl, hb2⟩
  have HB2 := Lib.hid (below_step HB1.out hb2)
  clear hb2 y0 y1 y2 HL1
  obtain ⟨y0, y1, y2⟩ := FA.out w2 HB2.out
  have HL2 := Lib.hid (FR.out w2 HB2.out)
  go_wp2_with (first | (refine wpList_load_at rfl 32 _ rfl _ _ rfl HL2.out ?_) | fail)
  refine (HH.out w2 1 (by omega) (below_step HX.out.2.2 HB2.out)).mono ?_
  rintro e w3 ⟨rfl, hb3⟩
  have HB3 := Lib.hid (below_step HB2.out hb3)
  clear hb3 y0 y1 y2 HL2
  go_wp2_with fail
  refine bodyPost_ret (results_tmp5 rfl _ _ _) rfl ?_
  exact ⟨rfl, below_step HX.out.2.2 HB3.out⟩
set_option maxRecDepth 100000 in
set_option maxHeartbeats 2000000 in
theorem rboth_ok {w : World} (x : RD) (al : Option Addr) (cl : Nat) (d : Dev) (a : Ar) (h : Rdv w x al cl d) (hr : inR a) (hin : inA d a) (hc : d.crashed = false) :
    Calls Tryz.prog 10 #[rdV x al cl, arV a] w fun e w' => e = .returned (.tuple #[.int .u64 (bN d a 0 : Nat), .string (bs (bT d a 0)), .int .u64 (bN d a 1 : Nat), .string (bs (bT d a 1)), .int .i64 (lookE d a : Nat)]) ∧ Below w.heap.size w w' := by
  obtain ⟨x1, x2, x3⟩ := rdW_at w x al cl a
  have HC := Lib.hid (fun V => rcheck_ x al cl d a V h.tie h.lim hr)
  have HH : Hid (∀ V (i : Nat), i < 2 → Below w.heap.size w V → Calls Tryz.prog 27 #[rdV x al cl, arV a, .int .i64 (i : Int)] V fun e w' => e = .returned (.tuple #[.string (if d.crashed = true then bs [] else bs (halfA d a i)), .int .i64 (if d.crashed = true then 60 else 0)]) ∧ Below V.heap.size V w') := fun V i hi hV => rhalf_ x al cl d a i hi (h.ls.on hV) h.tie h.ok h.len h.lim hin
  have h2s := hin.2.2.2.1
  have hds := hin.2.2.2.2.1
  have hlim := h.lim
  have hlen : ∀ i, (halfA d a i).length = 64 * (a.s / 2).toNat := fun i => secsB_len h.ok _ _ _
  have HHd : Hid (∀ V (i : Nat), Calls Tryz.prog 28 #[.string (bs (halfA d a i))] V fun e w' => e = .returned (.tuple #[.int .u64 (numA d a i : Nat), .string (bs (txtA d a i))]) ∧ Below V.heap.size V w') := fun V i => rheld_ (halfA d a i) _ V (secsB_byte h.ok _ _ _) (hlen i) (by omega) (by omega)
  have hrdV : rdV x al cl = .agg #[.int .i64 x.r, .int .i64 x.s, .slice al x.l.length cl, .bool x.crashed, .bool x.armed, .int .i64 x.left] := rfl
  have hrdC : rdC x al x.l.length cl = #[.int .i64 x.r, .int .i64 x.s, .slice al x.l.length cl, .bool x.crashed, .bool x.armed, .int .i64 x.left] := rfl
  unfold rdW at x1 x2 x3
  rw [hrdC] at x1 x2 x3
  rw [hrdV] at HC ⊢
  simp only [hrdV] at HH
  have HX := Lib.hid (And.intro x1 (And.intro x2 x3))
  have hE : lookE d a = 0 := by unfold lookE; rw [if_neg (fun e => e hin), if_neg (by simp [hc])]
  have h0 : ∀ i, bN d a i = numA d a i ∧ bT d a i = txtA d a i := fun i => ⟨if_pos hE, if_pos hE⟩
  rw [hE, (h0 0).1, (h0 0).2, (h0 1).1, (h0 1).2]
  simp only [if_pos hin] at HC
  simp only [hc, Bool.false_eq_true, if_false] at HH
  clear hin hE h0 hc h2s hds hlim hlen
  clear x1 x2 x3 h hr hrdV hrdC
  generalize x.l.length = L at *
  generalize x.r = xr at *
  generalize x.s = xs' at *
  generalize x.crashed = xc at *
  generalize x.armed = xa at *
  generalize x.left = xf at *
  unfold arV at *
  generalize hV : (w.alloc (.cells #[.int .i64 xr, .int .i64 xs', .slice al L cl, .bool xc, .bool xa, .int .i64 xf] 32)).alloc (.cells #[.int .i64 a.g, .int .i64 a.f, .int .i64 a.s] 23) = V at *
  have HV := Lib.hid hV
  clear hV
  have FR : Hid (∀ U, Below V.heap.size V U → (Instr.loadAt 32 (.pointer (some ⟨w.heap.size, 0, none⟩))).run Tryz.prog U = .ok (.agg #[.int .i64 xr, .int .i64 xs', .slice al L cl, .bool xc, .bool xa, .int .i64 xf]) U) := fun U hU => load_rd ((hU.block _ (blk_lt HX.out.1)).trans HX.out.1) rfl
  have FA : Hid (∀ U, Below V.heap.size V U → U.cell? ⟨w.heap.size + 1, 0, none⟩ = some (.int .i64 a.g) ∧ U.cell? ⟨w.heap.size + 1, 1, none⟩ = some (.int .i64 a.f) ∧ U.cell? ⟨w.heap.size + 1, 2, none⟩ = some (.int .i64 a.s)) := fun U hU => (HX.out.2.1.on hU).cells
  obtain ⟨y0, y1, y2⟩ := FA.out V (Below.refl _ _)
  go_enter Tryz.func10, Tryz.ntmps10
  go_wp2_with fail
  rw [HV.out]
  refine (HC.out V).mono ?_
  rintro e w1 ⟨rfl, hb1⟩
  have HB1 := Lib.hid hb1
  clear hb1 y0 y1 y2 HC
  obtain ⟨y0, y1, y2⟩ := FA.out w1 HB1.out
  have HL1 := Lib.hid (FR.out w1 HB1.out)
  go_wp2_with (first | (refine wpList_load_at rfl 32 _ rfl _ _ rfl HL1.out ?_) | fail)
  refine (HH.out w1 0 (by omega) (below_step HX.out.2.2 HB1.out)).mono ?_
  rintro e w2 ⟨rfl, hb2⟩
  have HB2 := Lib.hid (below_step HB1.out hb2)
  clear hb2 y0 y1 y2 HL1
  obtain ⟨y0, y1, y2⟩ := FA.out w2 HB2.out
  have HL2 := Lib.hid (FR.out w2 HB2.out)
  go_wp2_with (first | (refine wpList_load_at rfl 32 _ rfl _ _ rfl HL2.out ?_) | fail)
  refine (HH.out w2 1 (by omega) (below_step HX.out.2.2 HB2.out)).mono ?_
  rintro e w3 ⟨rfl, hb3⟩
  have HB3 := Lib.hid (below_step HB2.out hb3)
  clear hb3 y0 y1 y2 HL2
  go_wp2_with fail
  refine (HHd.out w3 0).mono ?_
  rintro e w4 ⟨rfl, hb4⟩
  have HB4 := Lib.hid (below_step HB3.out hb4)
  clear hb4
  go_wp2_with fail
  refine (HHd.out w4 1).mono ?_
  rintro e w5 ⟨rfl, hb5⟩
  have HB5 := Lib.hid (below_step HB4.out hb5)
  clear hb5
  go_wp2_with fail
  refine bodyPost_ret (results_tmp5 rfl _ _ _) rfl ?_
  exact ⟨rfl, below_step HX.out.2.2 HB5.out⟩
/-- Both, of whatever area. -/
theorem rboth_ {w : World} (x : RD) (al : Option Addr) (cl : Nat) (d : Dev) (a : Ar) (h : Rdv w x al cl d) (hr : inR a) :
    Calls Tryz.prog 10 #[rdV x al cl, arV a] w fun e w' => e = .returned (.tuple #[.int .u64 (bN d a 0 : Nat), .string (bs (bT d a 0)), .int .u64 (bN d a 1 : Nat), .string (bs (bT d a 1)), .int .i64 (lookE d a : Nat)]) ∧ Below w.heap.size w w' := by
  by_cases hin : inA d a
  · cases hc : d.crashed
    · exact rboth_ok x al cl d a h hr hin hc
    · exact rboth_crash x al cl d a h hr hin hc
  · exact rboth_out x al cl d a h hr hin
end Go.Proofs.YthaihallfjjnpaaGreatDoor
