/- The walks of lex's Same and Print. -/
import Derived.Test.YtfmpnakonffkcaaGreatDoorLxPrint
namespace Go.Proofs.YtfmpnakonffkcaaGreatDoor
open Go.RowKit Go.Sort

theorem at0s_take {xs : List Tk} (i : Nat) (h : i < xs.length) : at0s (xs.take (i + 1)) = at0s (xs.take i) ++ [xs[i].at0] := by
  rw [at0s, List.take_succ_eq_append_getElem h, List.map_append]; rfl
theorem ent_same : ∀ args w, (callFunc 22 args).run Tryz.prog w = .ok (.enter 22 args) w := enters_of Tryz.func22 (by kernel_rfl) rfl
set_option maxRecDepth 100000 in
set_option maxHeartbeats 4000000 in
theorem equalFunc_ (a b : Option Addr) (ca cb : Nat) (xs ys : List Tk) (w : World) (ha : TksIn w a xs) (hb : TksIn w b ys) (hl : xs.length ≤ 1000000000) (hm : ys.length ≤ 1000000000) {r : Bool} (hr : r = true ↔ at0s xs = at0s ys) :
    Calls Tryz.prog 25 #[.slice a xs.length ca, .slice b ys.length cb, .func (.func 22) #[] #[]] w fun e w' => e = .returned (.bool r) ∧ Below w.heap.size w w' := by
  have HI := Lib.hid (And.intro ha hb)
  have HR := Lib.hid hr
  have eg := ent_same
  have HSm : Hid (∀ (k : Int) (tx : ByteArray) (n p k' : Int) (tx' : ByteArray) (n' p' : Int) W, Calls Tryz.prog 22 #[.agg #[.int .i64 k, .string tx, .int .i64 n, .int .i64 p], .agg #[.int .i64 k', .string tx', .int .i64 n', .int .i64 p']] W fun e w' => e = .returned (.bool (sameB ⟨k, tx, n, p⟩ ⟨k', tx', n', p'⟩)) ∧ Below W.heap.size W w') := fun k tx n p k' tx' n' p' W => same1_ ⟨k, tx, n, p⟩ ⟨k', tx', n', p'⟩ W
  obtain ⟨L, hL⟩ : ∃ L, xs.length = L := ⟨_, rfl⟩
  obtain ⟨M, hM⟩ : ∃ M, ys.length = M := ⟨_, rfl⟩
  have HL := Lib.hid (And.intro hL hM)
  rw [hL] at hl ⊢
  rw [hM] at hm ⊢
  clear ha hb hr hL hM
  by_cases hlm : L = M
  · subst hlm
    have hne : ((L : Int) != L) = false := by simp
    go_enter Tryz.func25, Tryz.ntmps25
    go_wp2_with fail
    go_loopw [17] (fun iv wr => ∃ i : Nat, i ≤ L ∧ iv = .int .i64 i ∧ Hid (at0s (xs.take i) = at0s (ys.take i)) ∧ Hid (Below w.heap.size w wr)) (fun iv _ => L - (intOf iv).toNat)
    case atStart => exact ⟨0, Nat.zero_le _, rfl, rfl, Below.refl _ _⟩
    case round =>
      obtain ⟨i, hi, rfl, HE, HB⟩ := hrel
      by_cases hlt : i < L
      · have hlt2 : (i : Int) < (L : Int) := by omega
        have hi2 : i < xs.length := by rw [HL.out.1]; exact hlt
        have hi3 : i < ys.length := by rw [HL.out.2]; exact hlt
        obtain ⟨b1, o1, rfl, k, tx, n, p, hvi, p0, p1, p2, p3⟩ := TksIn.get (HI.out.1.on HB.out) i hi2
        have HIn2 : Hid (∃ b2 o2 k' tx' n' p', b = some ⟨b2, o2, none⟩ ∧ ys[i]'hi3 = ⟨k', tx', n', p'⟩ ∧ InT wr b2 (o2 + i * 4) ⟨k', tx', n', p'⟩) := by
          obtain ⟨b2, o2, h1, k', tx', n', p', h2, h3⟩ := TksIn.get (HI.out.2.on HB.out) i hi3
          exact ⟨b2, o2, k', tx', n', p', h1, h2, h3⟩
        obtain ⟨b2, o2, k', tx', n', p', rfl, hvi', hin2⟩ := HIn2.out
        have HIn := Lib.hid hin2
        clear HIn2 hin2
        simp only at p0 p1 p2 p3
        have q := HIn.out.on (below_alloc1 wr (.cells #[.int .i64 k, .string tx, .int .i64 n, .int .i64 p] 46))
        obtain ⟨q0, q1, q2, q3⟩ := q
        simp only at q0 q1 q2 q3
        have HS1 := Lib.hid (HSm.out k tx n p k' tx' n' p')
        cases hsb : sameB ⟨k, tx, n, p⟩ ⟨k', tx', n', p'⟩ with
        | true =>
          rw [hsb] at HS1
          have HE2 : Hid (at0s (xs.take (i + 1)) = at0s (ys.take (i + 1))) := by
            show _ = _
            rw [at0s_take i hi2, at0s_take i hi3, HE.out, hvi, hvi', sameB_iff.1 hsb]
          clear hvi hvi' HE HSm HIn hsb
          go_wp2_with (first | (go_at_fn 22; refine (HS1.out _).mono ?_; rintro e w1 ⟨rfl, hb1⟩) | fail)
          have HB1 := Lib.hid (below_step (below_step (below_step HB.out (below_alloc1 _ _)) (below_alloc1 _ _)) hb1)
          go_roundw
          case rel => exact ⟨i + 1, by omega, by go_num, HE2, HB1⟩
          case measure => simp [intOf]; omega
        | false =>
          rw [hsb] at HS1
          have hRf : r = false := by
            cases h : r with
            | false => rfl
            | true =>
              have h1 := HR.out.1 h
              have h2 : (at0s xs)[i]? = (at0s ys)[i]? := by rw [h1]
              rw [at0s, at0s, List.getElem?_map, List.getElem?_map, List.getElem?_eq_getElem hi2, List.getElem?_eq_getElem hi3, hvi, hvi'] at h2
              simp only [Option.map_some, Option.some.injEq] at h2
              rw [sameB_iff.2 h2] at hsb; cases hsb
          clear hvi hvi' HE HSm HIn hsb
          go_wp2_with (first | (go_at_fn 22; refine (HS1.out _).mono ?_; rintro e w1 ⟨rfl, hb1⟩) | fail)
          have HB1 := Lib.hid (below_step (below_step (below_step HB.out (below_alloc1 _ _)) (below_alloc1 _ _)) hb1)
          go_ret
          first | exact ⟨rfl, HB1.out⟩ | exact ⟨by rw [hRf]; rfl, HB1.out⟩
      · obtain rfl : i = L := by omega
        have hlt2 : ¬ ((i : Int) < (i : Int)) := by omega
        have hRt : r = true := HR.out.2 (by
          have h1 : xs.take i = xs := List.take_of_length_le (by rw [HL.out.1]; exact Nat.le_refl _)
          have h2 : ys.take i = ys := List.take_of_length_le (by rw [HL.out.2]; exact Nat.le_refl _)
          rw [← h1, HE.out, h2])
        clear HE HSm
        go_wp2_with fail
        go_ret
        first | exact ⟨rfl, HB.out⟩ | exact ⟨by rw [hRt]; rfl, HB.out⟩
  · have hne : ((L : Int) != M) = true := by simp; omega
    have hRf : r = false := by
      cases h : r with
      | false => rfl
      | true =>
        have h1 := congrArg List.length (HR.out.1 h)
        rw [at0s, at0s, List.length_map, List.length_map, HL.out.1, HL.out.2] at h1
        exact absurd h1 hlm
    clear HSm
    go_enter Tryz.func25, Tryz.ntmps25
    go_wp2_with fail
    go_ret
    first | exact ⟨rfl, Below.refl _ _⟩ | exact ⟨by rw [hRf]; rfl, Below.refl _ _⟩
theorem lxSame_ (a b : Option Addr) (ca cb : Nat) (xs ys : List Tk) (w : World) (ha : TksIn w a xs) (hb : TksIn w b ys) (hl : xs.length ≤ 1000000000) (hm : ys.length ≤ 1000000000) {r : Bool} (hr : r = true ↔ at0s xs = at0s ys) :
    Calls Tryz.prog 14 #[.slice a xs.length ca, .slice b ys.length cb] w fun e w' => e = .returned (.bool r) ∧ Below w.heap.size w w' := by
  have HQ := Lib.hid (equalFunc_ a b ca cb xs ys w ha hb hl hm hr)
  generalize xs.length = L at *
  generalize ys.length = M at *
  clear ha hb hr
  go_enter Tryz.func14, Tryz.ntmps14
  go_wp2_with fail
  refine HQ.out.mono ?_
  rintro e w1 ⟨rfl, hb1⟩
  have HB := Lib.hid hb1
  clear hb1
  go_wp2_with fail
  go_ret
  exact ⟨rfl, HB.out⟩

/-! ### Print -/
def canL (t : Tk) : Bool := (first (toldL t)).e == 0 && ((first (toldL t)).s == (toldL t).length && sameB (first (toldL t)).t t)
theorem at0_self {t : Tk} (h : t.p = 0) : t.at0 = t := by obtain ⟨k, tx, n, p⟩ := t; simp only at h; subst h; rfl
theorem canL_iff {t : Tk} : canL t = true ↔ CanB t := by
  unfold canL CanB
  simp only [Bool.and_eq_true, beq_iff_eq, sameB_iff]
  constructor
  · rintro ⟨h1, h2, h3⟩
    rw [at0_self (first_at0 _)] at h3
    cases e : first (toldL t) with
    | mk t' s' e' => rw [e] at h1 h2 h3; simp only at h1 h2 h3; rw [h1, h2, h3]
  · intro h; rw [h]; exact ⟨rfl, rfl, rfl⟩
theorem joinB_join : ∀ ts : List Tk, joinB ts = Lib.join (ts.map toldL) [32]
  | [] => rfl
  | [t] => by rw [joinB, List.map_cons, List.map_nil, Lib.join_one]
  | t :: u :: l => by
    rw [joinB, joinB_join (u :: l)]
    simp only [List.map_cons, Lib.join_cons, Lib.joinTail]
    simp
theorem joinB_len (M : Nat) : ∀ (ts : List Tk), (∀ t ∈ ts, (toldL t).length + 1 ≤ M) → (joinB ts).length ≤ ts.length * M
  | [], _ => Nat.le_of_eq (by simp [joinB])
  | [t], h => by have := h t (by simp); simp only [joinB, List.length_singleton]; omega
  | t :: u :: l, h => by
    have h1 := h t (by simp)
    have h2 := joinB_len M (u :: l) (fun x hx => h x (List.mem_cons_of_mem _ hx))
    rw [joinB, List.length_append, List.length_cons]
    simp only [List.length_cons] at h2 ⊢
    rw [Nat.add_mul (l.length + 1) 1 M]
    omega
theorem nDig_le (n : Int) (h : inI n) : (Lib.itoa n).length ≤ 20 := by
  unfold Lib.itoa
  have h1 := h.1; have h2 := h.2
  split
  · have := nDigits_lt (u := n.natAbs) (by omega)
    rw [List.length_cons, Lib.decDigits_length]; omega
  · have := nDigits_lt (u := n.toNat) (by omega)
    rw [Lib.decDigits_length]; omega
theorem toldL_len {t : Tk} (h : inI t.n) : (toldL t).length ≤ 2 * t.tx.size + 20 := by
  unfold toldL
  rw [size_lst]
  split
  · omega
  · split
    · have := nDig_le t.n h; omega
    · split
      · have := dbl_len (lst t.tx); simp; omega
      · simp
/-- What Print tells. -/
def prnV (ts : List Tk) : Value := if ts.all canL = true then .tuple #[.string (ofL (joinB ts)), .nilIface] else .tuple #[.string ⟨#[]⟩, .iface 42 (.int .i64 3)]
end Go.Proofs.YtfmpnakonffkcaaGreatDoor
