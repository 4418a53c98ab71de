/- The document's Load; what its Save takes. -/
import Derived.Test.YthaihallfjjnpaaGreatDoorQ3
namespace Go.Proofs.YthaihallfjjnpaaGreatDoor
open Go.RowKit Go.Sort Go.Maps

/-- What Load tells. -/
def ldN (d : Dev) (a : Ar) : Nat := if loadE d a = 0 then topA d a else 0
def ldT (d : Dev) (a : Ar) : List Nat := if loadE d a = 0 then txtA d a (tellA d a) else []
theorem results_tmp3 {fn : Func} {t u v : Tmp} (h : fn.results = #[.tmp t, .tmp u, .tmp v]) (tmps : Array Value) (P : Program) (w : World) : (results fn tmps).run P w = .ok (.tuple #[tmps.getD t undef, tmps.getD u undef, tmps.getD v undef]) w := by
  simp only [results, h]
  simp
theorem told_cases (d : Dev) (a : Ar) : (lookE d a ≠ 0 ∧ loadE d a = lookE d a ∧ ldN d a = 0 ∧ ldT d a = []) ∨ (lookE d a = 0 ∧ numA d a 0 = 0 ∧ numA d a 1 = 0 ∧ loadE d a = 8 ∧ ldN d a = 0 ∧ ldT d a = []) ∨
    (lookE d a = 0 ∧ numA d a 1 > numA d a 0 ∧ loadE d a = 0 ∧ ldN d a = numA d a 1 ∧ ldT d a = txtA d a 1) ∨ (lookE d a = 0 ∧ ¬ numA d a 1 > numA d a 0 ∧ numA d a 0 ≠ 0 ∧ loadE d a = 0 ∧ ldN d a = numA d a 0 ∧ ldT d a = txtA d a 0) := by
  unfold ldN ldT
  by_cases he : lookE d a = 0
  · by_cases h1 : numA d a 1 > numA d a 0
    · have ht : tellA d a = 1 := if_pos h1
      have h0 : topA d a = numA d a 1 := by unfold topA; rw [ht]
      have hl : loadE d a = 0 := by unfold loadE; rw [if_neg (by simpa using he), if_neg (by omega)]
      rw [hl, if_pos rfl, if_pos rfl, h0, ht]
      exact .inr (.inr (.inl ⟨he, h1, rfl, rfl, rfl⟩))
    · have ht : tellA d a = 0 := if_neg h1
      have h0 : topA d a = numA d a 0 := by unfold topA; rw [ht]
      by_cases h2 : numA d a 0 = 0
      · have hl : loadE d a = 8 := by unfold loadE; rw [if_neg (by simpa using he), if_pos (by omega)]
        rw [hl, if_neg (by decide), if_neg (by decide)]
        exact .inr (.inl ⟨he, h2, by omega, rfl, rfl, rfl⟩)
      · have hl : loadE d a = 0 := by unfold loadE; rw [if_neg (by simpa using he), if_neg (by omega)]
        rw [hl, if_pos rfl, if_pos rfl, h0, ht]
        exact .inr (.inr (.inr ⟨he, h1, h2, rfl, rfl, rfl⟩))
  · have hl : loadE d a = lookE d a := by unfold loadE; rw [if_pos he]
    rw [hl, if_neg he, if_neg he]
    exact .inl ⟨he, rfl, rfl, rfl⟩
set_option maxRecDepth 100000 in
set_option maxHeartbeats 2000000 in
theorem rload_ {w : World} (x : RD) (al : Option Addr) (cl : Nat) (d : Dev) (a : Ar) (h : Rdv w x al cl d) (hr : inR a) :
    Calls Tryz.prog 8 #[rdV x al cl, arV a] w fun e w' => e = .returned (.tuple #[.string (bs (ldT d a)), .int .u64 (ldN d a : Nat), .int .i64 (loadE d a : Nat)]) ∧ Below w.heap.size w w' := by
  obtain ⟨x1, x2, x3⟩ := rdW_at w x al cl a
  have HB : Hid (∀ V, Below w.heap.size w V → Calls Tryz.prog 10 #[rdV x al cl, arV a] V fun e w' => e = .returned (.tuple #[.int .u64 (bN d a 0 : Nat), .string (bs (bT d a 0)), .int .u64 (bN d a 1 : Nat), .string (bs (bT d a 1)), .int .i64 (lookE d a : Nat)]) ∧ Below V.heap.size V w') := fun V hV => rboth_ x al cl d a (h.on hV) hr
  have hrdV : rdV x al cl = .agg #[.int .i64 x.r, .int .i64 x.s, .slice al x.l.length cl, .bool x.crashed, .bool x.armed, .int .i64 x.left] := rfl
  have hrdC : rdC x al x.l.length cl = #[.int .i64 x.r, .int .i64 x.s, .slice al x.l.length cl, .bool x.crashed, .bool x.armed, .int .i64 x.left] := rfl
  have hc := told_cases d a
  have hb : lookE d a = 0 → (bN d a 0 = numA d a 0 ∧ bN d a 1 = numA d a 1 ∧ bT d a 0 = txtA d a 0 ∧ bT d a 1 = txtA d a 1) := fun e => by unfold bN bT; simp [e]
  unfold rdW at x3
  rw [hrdC] at x3
  rw [hrdV] at HB ⊢
  have HX := Lib.hid x3
  clear x1 x2 x3 h hr hrdV hrdC
  generalize bN d a 0 = n0 at *
  generalize bN d a 1 = n1 at *
  generalize bT d a 0 = t0 at *
  generalize bT d a 1 = t1 at *
  generalize numA d a 0 = m0 at *
  generalize numA d a 1 = m1 at *
  generalize txtA d a 0 = y0 at *
  generalize txtA d a 1 = y1 at *
  generalize ldT d a = T at *
  generalize ldN d a = N at *
  generalize loadE d a = E at *
  generalize lookE d a = LE at *
  have e00 : bs [] = ⟨#[]⟩ := rfl
  generalize x.l.length = L at *
  generalize x.r = xr at *
  generalize x.s = xs' at *
  generalize x.crashed = xc at *
  generalize x.armed = xa at *
  generalize x.left = xf at *
  unfold arV at *
  generalize hV : (w.alloc (.cells #[.int .i64 xr, .int .i64 xs', .slice al L cl, .bool xc, .bool xa, .int .i64 xf] 32)).alloc (.cells #[.int .i64 a.g, .int .i64 a.f, .int .i64 a.s] 23) = V at *
  have HV := Lib.hid hV
  clear hV
  rcases hc with ⟨he, rfl, rfl, rfl⟩ | ⟨rfl, rfl, rfl, rfl, rfl, rfl⟩ | ⟨rfl, h1, rfl, rfl, rfl⟩ | ⟨rfl, h1, h2, rfl, rfl, rfl⟩
  · clear hb
    have hne : ((E : Int) == 0) = false := by simp; omega
    go_enter Tryz.func8, Tryz.ntmps8
    go_wp2_with fail
    rw [HV.out]
    refine (HB.out V HX.out).mono ?_
    rintro e w1 ⟨rfl, hb1⟩
    have HB1 := Lib.hid (below_step HX.out hb1)
    clear hb1 HB HX HV
    go_wp2_with fail
    refine bodyPost_ret (results_tmp3 rfl _ _ _) rfl ?_
    exact ⟨rfl, HB1.out⟩
  · obtain ⟨rfl, rfl, rfl, rfl⟩ := hb rfl
    clear hb
    go_enter Tryz.func8, Tryz.ntmps8
    go_wp2_with fail
    rw [HV.out]
    refine (HB.out V HX.out).mono ?_
    rintro e w1 ⟨rfl, hb1⟩
    have HB1 := Lib.hid (below_step HX.out hb1)
    clear hb1 HB HX HV
    go_wp2_with fail
    refine bodyPost_ret (results_tmp3 rfl _ _ _) rfl ?_
    exact ⟨rfl, HB1.out⟩
  · obtain ⟨e1, e2, e3, e4⟩ := hb rfl
    clear hb
    subst e1 e2 e3 e4
    have q1 : ((n1 : Int) == 0) = false := by simp; omega
    have q2 : (n1 : Int) > (n0 : Int) := by omega
    have q2' : decide ((n0 : Int) < (n1 : Int)) = true := decide_eq_true (by omega)
    clear h1
    go_enter Tryz.func8, Tryz.ntmps8
    go_wp2_with fail
    rw [HV.out]
    refine (HB.out V HX.out).mono ?_
    rintro e w1 ⟨rfl, hb1⟩
    have HB1 := Lib.hid (below_step HX.out hb1)
    clear hb1 HB HX HV
    cases hn : ((n0 : Int) == 0)
    all_goals
      go_wp2_with fail
      refine bodyPost_ret (results_tmp3 rfl _ _ _) rfl ?_
      exact ⟨rfl, HB1.out⟩
  · obtain ⟨e1, e2, e3, e4⟩ := hb rfl
    clear hb
    subst e1 e2 e3 e4
    have q1 : ((n0 : Int) == 0) = false := by simp; omega
    have q2 : ¬ (n1 : Int) > (n0 : Int) := by omega
    have q2' : decide ((n0 : Int) < (n1 : Int)) = false := decide_eq_false (by omega)
    clear h1 h2
    go_enter Tryz.func8, Tryz.ntmps8
    go_wp2_with fail
    rw [HV.out]
    refine (HB.out V HX.out).mono ?_
    rintro e w1 ⟨rfl, hb1⟩
    have HB1 := Lib.hid (below_step HX.out hb1)
    clear hb1 HB HX HV
    go_wp2_with fail
    refine bodyPost_ret (results_tmp3 rfl _ _ _) rfl ?_
    exact ⟨rfl, HB1.out⟩
theorem lt_list_len : ∀ (l : List Nat) (lo n : Nat), l.Pairwise (· < ·) → (∀ x ∈ l, lo ≤ x ∧ x < n) → l.length ≤ n - lo
  | [], _, _, _, _ => Nat.zero_le _
  | x :: r, lo, n, hp, hx => by
    obtain ⟨h1, h2⟩ := List.pairwise_cons.1 hp
    have h0 := hx x List.mem_cons_self
    have ih := lt_list_len r (x + 1) n h2 (fun y hy => ⟨h1 y hy, (hx y (List.mem_cons_of_mem _ hy)).2⟩)
    rw [List.length_cons]
    omega
/-- A device of two regions of twelve sectors knows of no more than these. -/
theorem tie_len {d : Dev} {x : RD} (h : Tie d x) (hrs : d.r = 2 ∧ d.s = 12) : x.l.length ≤ 24 := by
  have hp : (x.l.map (fun y => (y.key.1 * 12 + y.key.2).toNat)).Pairwise (· < ·) := by
    rw [List.pairwise_map]
    refine List.Pairwise.imp_of_mem (fun {a b} ha hb hab => ?_) h.srt
    have ka := (h.ok a ha).2.2
    have kb := (h.ok b hb).2.2
    unfold hasD at ka kb
    unfold ltP at hab
    rw [hrs.1, hrs.2] at ka kb
    omega
  have := lt_list_len _ 0 24 hp (fun v hv => by
    obtain ⟨y, hy, rfl⟩ := List.mem_map.1 hv
    have ky := (h.ok y hy).2.2
    unfold hasD at ky
    rw [hrs.1, hrs.2] at ky
    omega)
  simpa using this
theorem left_write {d : Dev} (k : Pl) (xs : List Nat) (h : 0 ≤ d.left ∧ d.left ≤ 9223372036854775807) : 0 ≤ (writeD d k xs).left ∧ (writeD d k xs).left ≤ 9223372036854775807 := by
  unfold writeD
  split
  · exact h
  · show 0 ≤ (if d.armed = true ∧ d.left ≠ 0 then d.left - 1 else d.left) ∧ (if d.armed = true ∧ d.left ≠ 0 then d.left - 1 else d.left) ≤ _
    split <;> omega
theorem size_write (d : Dev) (k : Pl) (xs : List Nat) : (writeD d k xs).r = d.r ∧ (writeD d k xs).s = d.s := by
  unfold writeD; split <;> exact ⟨rfl, rfl⟩
theorem wrL_go {D : Dev} {g f : Int} {ys : List Nat} (h : ys ≠ []) : wrL D g f (chk ys) = if wErr D (g, f) (ys.take 64).length ≠ 0 then (writeD D (g, f) (ys.take 64), wErr D (g, f) (ys.take 64).length) else wrL (writeD D (g, f) (ys.take 64)) g (f + 1) (chk (ys.drop 64)) := by
  rw [chk_cons h]
  conv => lhs; unfold wrL
end Go.Proofs.YthaihallfjjnpaaGreatDoor
