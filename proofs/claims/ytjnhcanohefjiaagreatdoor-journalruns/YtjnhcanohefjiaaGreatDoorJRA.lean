/- The walks of record.refuse, Frame, Len; What is known of a row of one's own; errors.Is at an error of the type api.Errno, or none, and a target of that type: Go's own text of it, walked; record.number; The walk of record.readHead. -/
import Derived.Test.YtjnhcanohefjiaaGreatDoorJPA
import Derived.Test.YtjnhcanohefjiaaGreatDoorJKA
import Derived.Test.YtjnhcanohefjiaaGreatDoorJCA
import Derived.LaidEql
import Derived.Lib.IfaceEq
import Derived.Stop.Asserts
import Derived.RowKitTokens
namespace Go.Proofs.YtjnhcanohefjiaaGreatDoor
open Go.RowKit Go.Sort

set_option maxHeartbeats 400000 in
theorem refuse_ (n : Int) (w : World) : Calls Tryz.prog 46 #[.int .i64 n] w fun e w' => e = .returned (errV (refu n)) ∧ w' = w := by
  unfold refu
  by_cases h1 : n < 1
  · rw [if_pos h1]
    go_enter Tryz.func46, Tryz.ntmps46
    go_wp2
    go_ret
    exact ⟨rfl, rfl⟩
  · rw [if_neg h1]
    by_cases h2 : 1048576 < n
    · rw [if_pos h2]
      go_enter Tryz.func46, Tryz.ntmps46
      go_wp2
      go_ret
      exact ⟨rfl, rfl⟩
    · rw [if_neg h2]
      go_enter Tryz.func46, Tryz.ntmps46
      go_wp2
      go_ret
      exact ⟨rfl, rfl⟩
theorem enc_lens (n : Nat) (h : n ≤ 1048576) : (enc n).length ≤ 3 := by
  have h1 := enc_mono 1048576 n h
  have h2 : (enc 1048576).length = 3 := by rw [enc_ge (by decide), enc_ge (by decide), enc_lt (by decide)]; rfl
  omega
set_option maxRecDepth 100000 in
set_option maxHeartbeats 1000000 in
theorem frame_ (ep : Nat) (a : Option Addr) (xs : List Nat) (c : Nat) (w : World) (h : BytesIn w a xs) (hx : ∀ x ∈ xs, x < 256) (hc : a = none → c = 0) (he : ep < 18446744073709551616) (hlim : xs.length ≤ 9223372036854775807) :
    Calls Tryz.prog 42 #[.int .u64 ep, .slice a xs.length c] w (Opened w (frm ep xs).1 (frm ep xs).2) := by
  have HR := Lib.hid (refuse_ xs.length w)
  by_cases hr : refu xs.length = 0
  · have hb := refu_zero hr
    have e : frm ep xs = (recB ep xs, 0) := if_pos hr
    rw [e]
    rw [hr] at HR
    have hle := enc_le10 xs.length (by omega)
    have hle2 := enc_le10 ep he
    have hpos := enc_pos xs.length
    have H1 := Lib.hid (appU_ none [] 0 xs.length 0 w rfl (bytesIn_nil _ _) (fun _ => rfl) (by omega) (by simp))
    rw [List.nil_append] at H1
    have H2 : Hid (∀ W g cc, BytesIn W (some ⟨g, 0, none⟩) (enc xs.length) → Calls Tryz.prog 70 #[.slice (some ⟨g, 0, none⟩) (enc xs.length).length cc, .int .u64 ep] W (Laid W (enc xs.length ++ enc ep))) := Lib.hid fun W g cc hh => appU_ (some ⟨g, 0, none⟩) (enc xs.length) cc ep _ W rfl hh (fun q => by cases q) he (by omega)
    have H3 : Hid (∀ W g cc, BytesIn W (some ⟨g, 0, none⟩) (recH ep xs) → Calls Tryz.prog 71 #[.slice (some ⟨g, 0, none⟩) (recH ep xs).length cc] W (Made W (recB ep xs))) := Lib.hid fun W g cc hh => seal_ (some ⟨g, 0, none⟩) (recH ep xs) cc W hh (recH_byte ep xs hx) (fun q => by cases q) (by rw [recH_length]; omega)
    have HB := Lib.hid h
    have HC := Lib.hid hc
    have HE : Hid (recH ep xs = (enc xs.length ++ enc ep) ++ xs) := Lib.hid rfl
    have HN : Hid ((enc xs.length ++ enc ep).length ≤ 20 ∧ 0 < (enc xs.length ++ enc ep).length) := Lib.hid (by rw [List.length_append]; omega)
    have e0 : errV 0 = .nilIface := rfl
    rw [e0] at HR
    unfold Opened
    rw [e0]
    clear h hx hc e hr hle hle2 hpos
    obtain ⟨len, hlen⟩ : ∃ len, xs.length = len := ⟨_, rfl⟩
    have HL := Lib.hid hlen
    rw [hlen] at H1 H2 HR HE HN hb hlim ⊢
    clear hlen
    generalize recB ep xs = zs at *
    generalize recH ep xs = hs at *
    generalize enc len = e1 at *
    generalize hq : e1 ++ enc ep = e2 at *
    clear hq
    have hw1 := wraps_u64 (len : Int) (by omega) (by omega)
    go_enter Tryz.func42, Tryz.ntmps42
    go_wp2_with fail
    refine HR.out.mono ?_
    rintro e w0 ⟨rfl, rfl⟩
    go_wp2_with fail
    refine H1.out.mono ?_
    rintro e w1 ⟨g1, c1, rfl, hO1, hB1⟩
    have HB1 := Lib.hid hB1
    have HI1 := Lib.hid hO1.cells.2.1
    clear hB1 hO1
    go_wp2_with fail
    refine (H2.out w1 _ _ HI1.out).mono ?_
    rintro e w2 ⟨g2, c2, rfl, hO2, hB2⟩
    have HO2 := Lib.hid (hO2.lower HB1.out.size)
    have HB2 := Lib.hid (below_step HB1.out hB2)
    have hs2 := HB2.out.size
    clear hB2 hO2 HI1 H1 H2
    generalize hel : e2.length = el at *
    have HEL := Lib.hid hel
    clear hel
    go_wp2_with (first
      | (at_builtin; refine wpList_append_bytes _ rfl _ _ rfl w0.heap.size _ e2 xs rfl HO2.out a len c rfl HL.out HC.out (HB.out.on HB2.out) (by rw [HL.out, HEL.out]; have := HN.out; omega) hs2 ?_
         intro v3 w3 hown hgrow
         have HO3 := Lib.hid hown
         have HB3 := Lib.hid (below_grow HB2.out HO2.out hgrow)
         rw [← HE.out] at HO3
         obtain ⟨a3, c3, rfl, hi3, hn3⟩ := HO3.out.bytes
         clear hown hgrow)
      | fail)
    obtain ⟨g3, rfl⟩ : ∃ g3, a3 = some ⟨g3, 0, none⟩ := by
      rcases HO3.out.2 with ⟨_, e⟩ | ⟨g, _, _, e, _⟩
      · exfalso
        have h1 := HE.out
        have h2 := HN.out
        rw [List.length_eq_zero_iff.1 e] at h1
        have h3 := congrArg List.length h1
        rw [List.length_append, HEL.out] at h3
        simp at h3
        omega
      · simp only [Value.slice.injEq] at e
        exact ⟨g, e.1⟩
    refine (H3.out w3 _ _ hi3).mono ?_
    rintro e w4 ⟨a4, c4, rfl, hO4, hi4, hn4, hB4⟩
    have HO4 := Lib.hid (hO4.lower HB3.out.size)
    have HI4 := Lib.hid hi4
    have HN4 := Lib.hid hn4
    have HB4 := Lib.hid (below_step HB3.out hB4)
    clear hO4 hi4 hn4 hB4
    go_wp2_with fail
    go_ret2
    exact ⟨a4, c4, rfl, HO4.out, HI4.out, HN4.out, HB4.out⟩
  · have e : frm ep xs = ([], refu xs.length) := if_neg hr
    rw [e]
    unfold Opened
    simp only [errV_not hr] at HR ⊢
    generalize refu xs.length = k at *
    generalize xs.length = len at *
    clear h hx hc e
    go_enter Tryz.func42, Tryz.ntmps42
    go_wp2_with fail
    refine HR.out.mono ?_
    rintro e w0 ⟨rfl, rfl⟩
    go_wp2_with fail
    go_ret2
    exact ⟨none, 0, rfl, own_nil _ _, bytesIn_nil _ _, fun _ => rfl, Below.refl _ _⟩
set_option maxHeartbeats 1000000 in
theorem rlen_ (ep : Nat) (n : Int) (w : World) (he : ep < 18446744073709551616) (h0 : -9223372036854775808 ≤ n) (h1 : n ≤ 9223372036854775807) :
    Calls Tryz.prog 22 #[.int .u64 ep, .int .i64 n] w fun e w' => e = .returned (.tuple #[.int .i64 (lenR ep n).1, errV (lenR ep n).2]) ∧ w' = w := by
  have HR := Lib.hid (refuse_ n w)
  by_cases hr : refu n = 0
  · have hb := refu_zero hr
    obtain ⟨m, rfl⟩ : ∃ m : Nat, n = m := ⟨n.toNat, by omega⟩
    have e : lenR ep m = ((enc m).length + (enc ep).length + m + 4, 0) := by unfold lenR; rw [if_pos hr]; rfl
    rw [e]
    rw [hr] at HR
    have hle := enc_le10 m (by omega)
    have hle2 := enc_le10 ep he
    have H1 := Lib.hid (len_ m w (by omega))
    have H2 := Lib.hid (len_ ep w he)
    have e0 : errV 0 = .nilIface := rfl
    simp only
    rw [e0] at HR ⊢
    generalize (enc m).length = k1 at *
    generalize (enc ep).length = k2 at *
    have hw1 := wraps_u64 (m : Int) (by omega) (by omega)
    clear e hr
    go_enter Tryz.func22, Tryz.ntmps22
    go_wp2_with fail
    refine HR.out.mono ?_
    rintro e w0 ⟨rfl, rfl⟩
    go_wp2_with fail
    refine H1.out.mono ?_
    rintro e w0 ⟨rfl, rfl⟩
    go_wp2_with fail
    refine H2.out.mono ?_
    rintro e w0 ⟨rfl, rfl⟩
    go_wp2_with fail
    go_ret2
    exact ⟨by simp, rfl⟩
  · have e : lenR ep n = (0, refu n) := if_neg hr
    rw [e]
    simp only [errV_not hr] at HR ⊢
    generalize refu n = k at *
    clear e
    go_enter Tryz.func22, Tryz.ntmps22
    go_wp2_with fail
    refine HR.out.mono ?_
    rintro e w0 ⟨rfl, rfl⟩
    go_wp2_with fail
    go_ret2
    exact ⟨rfl, rfl⟩
end Go.Proofs.YtjnhcanohefjiaaGreatDoor

namespace Go.Proofs.YtjnhcanohefjiaaGreatDoor
open Go.RowKit Go.Sort

theorem own_cap {w : World} {base n c : Nat} {a : Option Addr} {xs : List Nat} (h : Own w base (.slice a n c) xs) : xs.length ≤ c := by
  rcases h.2 with ⟨h', e⟩ | ⟨g', cap', cur, h', _, _, hnc, _⟩
  · cases h'
    omega
  · cases h'
    exact hnc
/-- A row that is not empty lies somewhere. -/
theorem own_at {w : World} {base n c : Nat} {a : Option Addr} {xs : List Nat} (h : Own w base (.slice a n c) xs) (h0 : 0 < xs.length) : ∃ g, a = some ⟨g, 0, none⟩ := by
  rcases h.2 with ⟨_, e⟩ | ⟨g, _, _, e, _⟩
  · omega
  · simp only [Value.slice.injEq] at e
    exact ⟨g, e.1⟩
end Go.Proofs.YtjnhcanohefjiaaGreatDoor

namespace Go.Proofs.YtjnhcanohefjiaaGreatDoor
open Go.RowKit Go.Extern.Stop Go.Stop Go.Extern

theorem isTypeOf (v : Value) (w : World) : (Extern.ReflectliteType.typeOf #[.iface 68 v]).run Tryz.prog w = .ok (.iface 155 (.agg #[.pointer (some ⟨1, 68, none⟩)])) w := by kernel_rfl
theorem isComparable (w : World) : ((Extern.ReflectliteType.method fun t => do Rtype.noPackHeld "Comparable" t; Functor.map (fun a => Value.bool a.comparable) (typeInfo t)) #[.agg #[.pointer (some ⟨1, 68, none⟩)]]).run Tryz.prog w = .ok (.bool true) w := by kernel_rfl
theorem isMethodComparable (v : Value) (w : World) : (Go.method 336 155 v "Comparable").run Tryz.prog w = .ok (150, v) w := by kernel_rfl
theorem isComp : (Tryz.prog.info? 68).map (·.comparable) = some true := by kernel_rfl
theorem noIsE (v : Value) (xT : TypeId) (w : World) : (Instr.typeAssert (.iface 68 v) xT 202 true).run Tryz.prog w = .ok (.tuple #[.nilIface, .bool false]) w := run_typeAssert_lacksB Tryz.underlying202 (by kernel_rfl) (by kernel_rfl) v xT w
theorem noUnwrapE (v : Value) (xT : TypeId) (w : World) : (Instr.typeAssert (.iface 68 v) xT 163 true).run Tryz.prog w = .ok (.tuple #[.nilIface, .bool false]) w := run_typeAssert_lacksB Tryz.underlying163 (by kernel_rfl) (by kernel_rfl) v xT w
theorem noUnwrapsE (v : Value) (xT : TypeId) (w : World) : (Instr.typeAssert (.iface 68 v) xT 164 true).run Tryz.prog w = .ok (.tuple #[.nilIface, .bool false]) w := run_typeAssert_lacksB Tryz.underlying164 (by kernel_rfl) (by kernel_rfl) v xT w
set_option maxHeartbeats 1000000 in
/-- errors.Is of no error. -/
theorem is_nil (n : Int) (w : World) : Calls Tryz.prog 102 #[.nilIface, .iface 68 (.int .i64 n)] w fun e w' => e = .returned (.bool false) ∧ w' = w := by
  have hn := run_eql_iface_nil_left (P := Tryz.prog) w 68 (.int .i64 n) Tryz.underlying28
  go_enter Tryz.func102, Tryz.ntmps102
  go_wp2
  go_ret
  exact ⟨rfl, rfl⟩
set_option maxHeartbeats 1000000 in
/-- errors.Is of two numbers. -/
theorem is_num (m n : Int) (w : World) : Calls Tryz.prog 102 #[.iface 68 (.int .i64 m), .iface 68 (.int .i64 n)] w fun e w' => e = .returned (.bool (m == n)) ∧ w' = w := by
  obtain ⟨i, hi, hcmp⟩ := Option.map_eq_some_iff.1 isComp
  have h8 := @run_callFunc_extern Tryz.prog 81 _ Extern.ReflectliteType.typeOf Tryz.func81 (by kernel_rfl) (by kernel_rfl) (by kernel_rfl) (by kernel_rfl)
  have h32 := @run_callFunc_extern Tryz.prog 150 _ (Extern.ReflectliteType.method fun t => do Rtype.noPackHeld "Comparable" t; pure (.bool (← typeInfo t).comparable)) Tryz.func150 (by kernel_rfl) (by kernel_rfl) (by kernel_rfl) (by kernel_rfl)
  have tT := isTypeOf
  have cT := isComparable
  have mR := isMethodComparable
  have nE := noIsE
  have uE := noUnwrapE
  have vE := noUnwrapsE
  have heq := Lib.run_eql_iface_int (P := Tryz.prog) w (k := .i64) m n Tryz.underlying28 isComp Tryz.underlying68
  generalize (m == n) = b at *
  cases b
  · go_enter Tryz.func102, Tryz.ntmps102
    go_wp2
    refine wp_loop_rounds 1 ?_
    rw [rounds_succ]
    go_wp2
    go_ret
    exact ⟨rfl, rfl⟩
  · go_enter Tryz.func102, Tryz.ntmps102
    go_wp2
    refine wp_loop_rounds 1 ?_
    rw [rounds_succ]
    go_wp2
    go_ret
    exact ⟨rfl, rfl⟩
theorem is_ (k : Nat) (n : Nat) (hn : n ≠ 0) (w : World) : Calls Tryz.prog 102 #[errV k, .iface 68 (.int .i64 n)] w fun e w' => e = .returned (.bool (decide (k = n))) ∧ w' = w := by
  by_cases h : k = 0
  · subst h
    rw [decide_eq_false (by omega)]
    exact is_nil n w
  · rw [errV_not h]
    have := is_num k n w
    rw [show ((k : Int) == (n : Int)) = decide (k = n) by rw [Bool.eq_iff_iff]; simp; omega] at this
    exact this
set_option maxRecDepth 100000 in
set_option maxHeartbeats 1000000 in
theorem number_ (a : Option Addr) (xs : List Nat) (c : Nat) (w : World) (h : BytesIn w a xs) (hb : ∀ x ∈ xs, x < 256) (hlim : xs.length ≤ 9223372036854775807) :
    Calls Tryz.prog 92 #[.slice a xs.length c] w fun e w' => e = .returned (.tuple #[.int .u64 (nbr xs).1, .int .i64 (nbr xs).2.1, errV (nbr xs).2.2]) ∧ w' = w := by
  have HU := Lib.hid (uint_ a xs c w h hb hlim)
  have HI := Lib.hid (is_ (rdU xs).2.2 3 (by decide) w)
  have HN : Hid ((rdU xs).2.2 = 3 → nbr xs = (0, 0, 11)) := Lib.hid fun hh => if_pos hh
  have HM : Hid ((rdU xs).2.2 ≠ 3 → nbr xs = rdU xs) := Lib.hid fun hh => if_neg hh
  generalize nbr xs = N at *
  generalize rdU xs = R at *
  obtain ⟨v, k, e⟩ := R
  simp only at HU HI HN HM
  clear h hb
  generalize xs.length = len at *
  by_cases h3 : e = 3
  · have hN := HN.out h3
    subst hN
    rw [decide_eq_true h3] at HI
    generalize errV e = ev at *
    have ev11 : errV 11 = .iface 68 (.int .i64 11) := rfl
    simp only [ev11]
    clear HN HM h3
    go_enter Tryz.func92, Tryz.ntmps92
    go_wp2_with fail
    refine HU.out.mono ?_
    rintro e w1 ⟨rfl, rfl⟩
    go_wp2_with fail
    refine HI.out.mono ?_
    rintro e w2 ⟨rfl, rfl⟩
    go_wp2_with fail
    go_ret3
    exact ⟨rfl, rfl⟩
  · have hN := HM.out h3
    subst hN
    rw [decide_eq_false h3] at HI
    simp only
    generalize errV e = ev at *
    clear HN HM h3
    go_enter Tryz.func92, Tryz.ntmps92
    go_wp2_with fail
    refine HU.out.mono ?_
    rintro e w1 ⟨rfl, rfl⟩
    go_wp2_with fail
    refine HI.out.mono ?_
    rintro e w2 ⟨rfl, rfl⟩
    go_wp2_with fail
    go_ret3
    exact ⟨rfl, rfl⟩
end Go.Proofs.YtjnhcanohefjiaaGreatDoor

namespace Go.Proofs.YtjnhcanohefjiaaGreatDoor
open Go.RowKit Go.Sort

theorem infoH : (Tryz.prog.info? 145).map (·.size) = some 3 := by kernel_rfl
theorem load_h {w : World} {b : Nat} {cs : Array Value} (h : w.heap[b]? = some (.cells cs 145 (0, 0))) (hc : cs.size = 3) : (loadVar 145 ⟨b, 0, none⟩).run Tryz.prog w = .ok (.agg cs) w :=
  run_loadVar_row w b 145 145 _ (0, 0) _ h Tryz.underlying145 rfl (by rw [hc]; exact infoH)
theorem store_h {w : World} {b : Nat} {old cs : Array Value} (h : w.heap[b]? = some (.cells old 145 (0, 0))) (ho : old.size = 3) (hc : cs.size = 3) (h1 : cs.all (·.oneCell') = true) : (Instr.storeAt 145 (.pointer (some ⟨b, 0, none⟩)) (.agg cs)).run Tryz.prog w = .ok () (w.setRow b cs) := by
  simp only [Instr.storeAt, Instr.sureAddr, Sem.run_bind, Sem.run_pure, Result.andThen]
  exact run_storeVar_row w b 145 145 _ _ h (by rw [hc]; exact infoH) (ho.trans hc.symm) h1
/-- A head is stored where the result lies. -/
theorem head_store {w W : World} (hB : Below w.heap.size w W) (hk : W.heap[w.heap.size]? = some (.cells #[.int .i64 0, .int .u64 0, .int .i64 0] 145 (0, 0))) (l e s : Int) :
    ∃ W2, (Instr.storeAt 145 (.pointer (some ⟨w.heap.size, 0, none⟩)) (.agg #[.int .i64 l, .int .u64 e, .int .i64 s])).run Tryz.prog W = .ok () W2 ∧ (loadVar 145 ⟨w.heap.size, 0, none⟩).run Tryz.prog W2 = .ok (.agg #[.int .i64 l, .int .u64 e, .int .i64 s]) W2 ∧ Below w.heap.size w W2 :=
  ⟨W.setRow w.heap.size #[.int .i64 l, .int .u64 e, .int .i64 s], store_h hk rfl rfl (by simp [Value.oneCell']), load_h (setRow_heap W _ _ _ 145 (0, 0) hk) rfl, below_setRow hB (Nat.le_refl _)⟩
/-- What readHead hands back. -/
def Headed (w : World) (R : Nat × Nat × Nat × Nat) (e : Ending) (w' : World) : Prop :=
  e = .returned (.tuple #[.agg #[.int .i64 R.1, .int .u64 R.2.1, .int .i64 R.2.2.1], errV R.2.2.2]) ∧ Below w.heap.size w w'
theorem BytesIn.drop {w : World} {b o : Nat} {xs : List Nat} (h : BytesIn w (some ⟨b, o, none⟩) xs) (k : Nat) : BytesIn w (some ⟨b, o + k, none⟩) (xs.drop k) := by
  intro i hi
  rw [List.length_drop] at hi
  obtain ⟨b', o', e, h1⟩ := h (k + i) (by omega)
  cases e
  refine ⟨b, o + k, rfl, ?_⟩
  rw [Nat.add_assoc, h1]
  congr 2
  rw [List.getD_eq_getElem?_getD, List.getD_eq_getElem?_getD, List.getElem?_drop]
theorem nbr_le (xs : List Nat) (hb : ∀ x ∈ xs, x < 256) : (nbr xs).1 < 18446744073709551616 ∧ (nbr xs).2.1 ≤ xs.length ∧ (nbr xs).2.1 ≤ 10 := by
  by_cases h : (nbr xs).2.2 = 0
  · obtain ⟨h1, h2, h3, h4⟩ := nbr_back xs hb h
    have := enc_le10 _ h4
    rw [h1, List.length_take] at this
    exact ⟨h4, h3, by omega⟩
  · obtain ⟨h1, h2⟩ := nbr_err xs h
    rw [h1, h2]
    exact ⟨by decide, Nat.zero_le _, Nat.zero_le _⟩
set_option maxRecDepth 100000 in
set_option maxHeartbeats 2000000 in
theorem readHead_ (a : Option Addr) (xs : List Nat) (n c : Nat) (w : World) (h : BytesIn w a xs) (hx : ∀ x ∈ xs, x < 256) (hn : xs.length = n) (hlim : n ≤ 4611686018427387904) (hcap : n ≤ c) :
    Calls Tryz.prog 74 #[.slice a n c] w (Headed w (hdR xs)) := by
  obtain ⟨V, hV⟩ : ∃ V, w.alloc (.cells #[.int .i64 0, .int .u64 0, .int .i64 0] 145) = V := ⟨_, rfl⟩
  have HV := Lib.hid hV
  have HB0 : Hid (Below w.heap.size w V) := Lib.hid (by rw [← hV]; exact below_alloc _ _)
  have HK0 : Hid (V.heap[w.heap.size]? = some (.cells #[.int .i64 0, .int .u64 0, .int .i64 0] 145 (0, 0))) := Lib.hid (by rw [← hV]; exact World.alloc_heap_new' _ _)
  clear hV
  have e0 : errV 0 = .nilIface := rfl
  obtain ⟨Z, hZst, hZld, hZb⟩ := head_store HB0.out HK0.out 0 0 0
  have ZS := Lib.hid hZst
  have ZL := Lib.hid hZld
  have ZB := Lib.hid hZb
  clear hZst hZld hZb
  have VL := Lib.hid (load_h HK0.out rfl)
  by_cases hn0 : n = 0
  · have e : hdR xs = (0, 0, 0, 8) := by unfold hdR; rw [if_pos (.inl (by omega))]
    rw [e]
    subst hn0
    unfold Headed
    have ev8 : errV 8 = .iface 68 (.int .i64 8) := rfl
    simp only [ev8]
    clear h hx hn e HK0
    go_enter Tryz.func74, Tryz.ntmps74
    go_wp2_with fail
    rw [HV.out]
    refine bodyPost_ret (v := .tuple #[.agg #[.int .i64 0, .int .u64 0, .int .i64 0], .iface 68 (.int .i64 8)]) ?_ rfl ⟨rfl, HB0.out⟩
    rw [results_cell_tmp rfl]
    simp [asAddr, Result.andThen, VL.out]
  · obtain ⟨b, o, rfl, hc0⟩ := h 0 (by omega)
    have hnb : ((n : Int) == 0) = false := by simpa using hn0
    have hcell : (w.alloc (.cells #[.int .i64 0, .int .u64 0, .int .i64 0] 145)).cell? ⟨b, o, none⟩ = some (.int .u8 (xs.getD 0 0 : Nat)) := (below_alloc w _).cell (block_lt_of_cell hc0) |>.trans hc0
    by_cases hy : xs.getD 0 0 = 0
    · have e : hdR xs = (0, 0, 0, 8) := by unfold hdR; rw [if_pos (.inr hy)]
      rw [e]
      rw [hy] at hcell
      have hpos : (0 : Int) < (n : Int) := by omega
      unfold Headed
      have ev8 : errV 8 = .iface 68 (.int .i64 8) := rfl
      simp only [ev8]
      clear h hx hn e HK0 hc0 hy
      go_enter Tryz.func74, Tryz.ntmps74
      go_wp2_with fail
      rw [HV.out]
      refine bodyPost_ret (v := .tuple #[.agg #[.int .i64 0, .int .u64 0, .int .i64 0], .iface 68 (.int .i64 8)]) ?_ rfl ⟨rfl, HB0.out⟩
      rw [results_cell_tmp rfl]
      simp [asAddr, Result.andThen, VL.out]
    · have hyb : ((xs.getD 0 0 : Nat) : Int) ≠ 0 := by omega
      have hyb2 : ((((xs.getD 0 0 : Nat) : Int)) == 0) = false := by simpa using hy
      have hor : ¬ (xs.length = 0 ∨ xs.getD 0 0 = 0) := by rintro (q | q); exact hn0 (by omega); exact hy q
      have e : hdR xs = if (nbr xs).2.2 ≠ 0 then (0, 0, 0, (nbr xs).2.2) else if 1048576 < (nbr xs).1 then (0, 0, 0, 11)
          else if (nbr (xs.drop (nbr xs).2.1)).2.2 ≠ 0 then (0, 0, 0, (nbr (xs.drop (nbr xs).2.1)).2.2) else ((nbr xs).1, (nbr (xs.drop (nbr xs).2.1)).1, (nbr xs).2.1 + (nbr (xs.drop (nbr xs).2.1)).2.1, 0) := by
        unfold hdR; rw [if_neg hor]
      generalize xs.getD 0 0 = y at *
      have HN1 := Lib.hid (number_ (some ⟨b, o, none⟩) xs c V (h.on HB0.out) hx (by omega))
      rw [hn] at HN1
      have hle := nbr_le xs hx
      have hdx : ∀ x ∈ xs.drop (nbr xs).2.1, x < 256 := fun x hm => hx x (List.mem_of_mem_drop hm)
      have hle2 := nbr_le (xs.drop (nbr xs).2.1) hdx
      have hdl : (xs.drop (nbr xs).2.1).length = n - (nbr xs).2.1 := by rw [List.length_drop, hn]
      have HN2 : Hid (∀ (A : Option Addr) cc, A = (if c = (nbr xs).2.1 then (some ⟨b, o, none⟩ : Option Addr) else some ⟨b, o + (nbr xs).2.1, none⟩) → Calls Tryz.prog 92 #[.slice A (n - (nbr xs).2.1) cc] V fun e w' => e = .returned (.tuple #[.int .u64 (nbr (xs.drop (nbr xs).2.1)).1, .int .i64 (nbr (xs.drop (nbr xs).2.1)).2.1, errV (nbr (xs.drop (nbr xs).2.1)).2.2]) ∧ w' = V) := Lib.hid fun A cc hA => by
        have hb : BytesIn V A (xs.drop (nbr xs).2.1) := by
          rw [hA]
          by_cases hck : c = (nbr xs).2.1
          · rw [List.drop_eq_nil_of_le (by omega)]; exact bytesIn_nil _ _
          · rw [if_neg hck]; exact (h.on HB0.out).drop _
        have := number_ A (xs.drop (nbr xs).2.1) cc V hb hdx (by omega)
        rw [hdl] at this
        exact this
      rw [e]
      rw [hdl] at hle2
      rw [hn] at hle
      generalize nbr (xs.drop (nbr xs).2.1) = M at *
      generalize nbr xs = N at *
      obtain ⟨l, k, e1⟩ := N
      obtain ⟨m, k2, e2⟩ := M
      simp only at HN1 HN2 hle hle2 ⊢
      have hpos : (0 : Int) < (n : Int) := by omega
      clear h hx hn e hc0 hor hdx hdl hy
      unfold Headed
      by_cases c1 : e1 ≠ 0
      · rw [if_pos c1]
        simp only [errV_not c1] at HN1 ⊢
        go_enter Tryz.func74, Tryz.ntmps74
        go_wp2_with fail
        rw [HV.out]
        refine HN1.out.mono ?_
        rintro e w1 ⟨rfl, rfl⟩
        go_wp2_with (first | (refine wpList_store_at rfl 145 _ _ rfl _ _ rfl rfl ZS.out ?_) | fail)
        refine bodyPost_ret (v := .tuple #[.agg #[.int .i64 0, .int .u64 0, .int .i64 0], .iface 68 (.int .i64 e1)]) ?_ rfl ⟨rfl, ZB.out⟩
        rw [results_cell_tmp rfl]
        simp [asAddr, Result.andThen, ZL.out]
      · obtain rfl : e1 = 0 := by omega
        rw [if_neg (by simp)]
        rw [e0] at HN1
        clear c1
        by_cases c2 : 1048576 < l
        · rw [if_pos c2]
          have hgt : (l : Int) > 1048576 := by omega
          have ev11 : errV 11 = .iface 68 (.int .i64 11) := rfl
          simp only [ev11]
          go_enter Tryz.func74, Tryz.ntmps74
          go_wp2_with fail
          rw [HV.out]
          refine HN1.out.mono ?_
          rintro e w1 ⟨rfl, rfl⟩
          go_wp2_with (first | (refine wpList_store_at rfl 145 _ _ rfl _ _ rfl rfl ZS.out ?_) | fail)
          refine bodyPost_ret (v := .tuple #[.agg #[.int .i64 0, .int .u64 0, .int .i64 0], .iface 68 (.int .i64 11)]) ?_ rfl ⟨rfl, ZB.out⟩
          rw [results_cell_tmp rfl]
          simp [asAddr, Result.andThen, ZL.out]
        · rw [if_neg c2]
          have hgt : ¬ (l : Int) > 1048576 := by omega
          have hkn : (k : Int) ≤ n := by omega
          have hkc : (k : Int) ≤ c := by omega
          by_cases c3 : e2 ≠ 0
          · rw [if_pos c3]
            simp only [errV_not c3] at HN2 ⊢
            go_enter Tryz.func74, Tryz.ntmps74
            go_wp2_with fail
            rw [HV.out]
            refine HN1.out.mono ?_
            rintro e w1 ⟨rfl, rfl⟩
            go_wp2_with fail
            all_goals
              refine (HN2.out _ _ (by first | rw [if_pos (by assumption)] | rw [if_neg (by assumption)] | simp_all)).mono ?_
              rintro e w1 ⟨rfl, rfl⟩
              go_wp2_with (first | (refine wpList_store_at rfl 145 _ _ rfl _ _ rfl rfl ZS.out ?_) | fail)
              refine bodyPost_ret (v := .tuple #[.agg #[.int .i64 0, .int .u64 0, .int .i64 0], .iface 68 (.int .i64 e2)]) ?_ rfl ⟨rfl, ZB.out⟩
              rw [results_cell_tmp rfl]
              simp [asAddr, Result.andThen, ZL.out]
          · obtain rfl : e2 = 0 := by omega
            rw [if_neg (by simp)]
            rw [e0] at HN2 ⊢
            clear c3 ZS ZL ZB
            obtain ⟨Z, hZst, hZld, hZb⟩ := head_store HB0.out HK0.out l m (k + k2 : Nat)
            rw [Int.natCast_add] at hZst hZld
            have ZS := Lib.hid hZst
            have ZL := Lib.hid hZld
            have ZB := Lib.hid hZb
            clear hZst hZld hZb
            simp only [Int.natCast_add]
            have hw1 : wrap64 (l : Int) = l := by unfold wrap64; omega
            go_enter Tryz.func74, Tryz.ntmps74
            go_wp2_with fail
            rw [HV.out]
            refine HN1.out.mono ?_
            rintro e w1 ⟨rfl, rfl⟩
            go_wp2_with fail
            all_goals
              refine (HN2.out _ _ (by first | rw [if_pos (by assumption)] | rw [if_neg (by assumption)] | simp_all)).mono ?_
              rintro e w1 ⟨rfl, rfl⟩
              go_wp2_with (first | (refine wpList_store_at rfl 145 _ _ rfl _ _ rfl rfl ZS.out ?_) | fail)
              refine bodyPost_ret (v := .tuple #[.agg #[.int .i64 l, .int .u64 m, .int .i64 ((k : Int) + k2)], .nilIface]) ?_ rfl ⟨rfl, ZB.out⟩
              rw [results_cell_tmp rfl]
              simp [asAddr, Result.andThen, ZL.out]
end Go.Proofs.YtjnhcanohefjiaaGreatDoor
