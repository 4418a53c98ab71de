/- errors.Is at an error of the type api.Errno, or none, and a target of that type: Go's own text of it, walked; record.number. -/
import Derived.Test.YtjnhcanohefjiaaGreatDoorRcMath
import Derived.Test.YtjnhcanohefjiaaGreatDoorKRead
import Derived.LaidEql
import Derived.Lib.IfaceEq
import Derived.Stop.Asserts
import Derived.RowKitTokens
namespace Go.Proofs.YtjnhcanohefjiaaGreatDoor
open Go.RowKit Go.Extern.Stop Go.Stop Go.Extern

theorem isTypeOf (v : Value) (w : World) : (Extern.ReflectliteType.typeOf #[.iface 68 v]).run Tryz.prog w = .ok (.iface 155 (.agg #[.pointer (some ⟨1, 68, none⟩)])) w := by kernel_rfl
theorem isComparable (w : World) : ((Extern.ReflectliteType.method fun t => do Rtype.noPackHeld "Comparable" t; Functor.map (fun a => Value.bool a.comparable) (typeInfo t)) #[.agg #[.pointer (some ⟨1, 68, none⟩)]]).run Tryz.prog w = .ok (.bool true) w := by kernel_rfl
theorem isMethodComparable (v : Value) (w : World) : (Go.method 336 155 v "Comparable").run Tryz.prog w = .ok (150, v) w := by kernel_rfl
theorem isComp : (Tryz.prog.info? 68).map (·.comparable) = some true := by kernel_rfl
theorem noIsE (v : Value) (xT : TypeId) (w : World) : (Instr.typeAssert (.iface 68 v) xT 202 true).run Tryz.prog w = .ok (.tuple #[.nilIface, .bool false]) w := run_typeAssert_lacksB Tryz.underlying202 (by kernel_rfl) (by kernel_rfl) v xT w
theorem noUnwrapE (v : Value) (xT : TypeId) (w : World) : (Instr.typeAssert (.iface 68 v) xT 163 true).run Tryz.prog w = .ok (.tuple #[.nilIface, .bool false]) w := run_typeAssert_lacksB Tryz.underlying163 (by kernel_rfl) (by kernel_rfl) v xT w
theorem noUnwrapsE (v : Value) (xT : TypeId) (w : World) : (Instr.typeAssert (.iface 68 v) xT 164 true).run Tryz.prog w = .ok (.tuple #[.nilIface, .bool false]) w := run_typeAssert_lacksB Tryz.underlying164 (by kernel_rfl) (by kernel_rfl) v xT w
set_option maxHeartbeats 1000000 in
/-- errors.Is of no error. -/
theorem is_nil (n : Int) (w : World) : Calls Tryz.prog 102 #[.nilIface, .iface 68 (.int .i64 n)] w fun e w' => e = .returned (.bool false) ∧ w' = w := by
  have hn := run_eql_iface_nil_left (P := Tryz.prog) w 68 (.int .i64 n) Tryz.underlying28
  go_enter Tryz.func102, Tryz.ntmps102
  go_wp2
  go_ret
  exact ⟨rfl, rfl⟩
set_option maxHeartbeats 1000000 in
/-- errors.Is of two numbers. -/
theorem is_num (m n : Int) (w : World) : Calls Tryz.prog 102 #[.iface 68 (.int .i64 m), .iface 68 (.int .i64 n)] w fun e w' => e = .returned (.bool (m == n)) ∧ w' = w := by
  obtain ⟨i, hi, hcmp⟩ := Option.map_eq_some_iff.1 isComp
  have h8 := @run_callFunc_extern Tryz.prog 81 _ Extern.ReflectliteType.typeOf Tryz.func81 (by kernel_rfl) (by kernel_rfl) (by kernel_rfl) (by kernel_rfl)
  have h32 := @run_callFunc_extern Tryz.prog 150 _ (Extern.ReflectliteType.method fun t => do Rtype.noPackHeld "Comparable" t; pure (.bool (← typeInfo t).comparable)) Tryz.func150 (by kernel_rfl) (by kernel_rfl) (by kernel_rfl) (by kernel_rfl)
  have tT := isTypeOf
  have cT := isComparable
  have mR := isMethodComparable
  have nE := noIsE
  have uE := noUnwrapE
  have vE := noUnwrapsE
  have heq := Lib.run_eql_iface_int (P := Tryz.prog) w (k := .i64) m n Tryz.underlying28 isComp Tryz.underlying68
  generalize (m == n) = b at *
  cases b
  · go_enter Tryz.func102, Tryz.ntmps102
    go_wp2
    refine wp_loop_rounds 1 ?_
    rw [rounds_succ]
    go_wp2
    go_ret
    exact ⟨rfl, rfl⟩
  · go_enter Tryz.func102, Tryz.ntmps102
    go_wp2
    refine wp_loop_rounds 1 ?_
    rw [rounds_succ]
    go_wp2
    go_ret
    exact ⟨rfl, rfl⟩
theorem is_ (k : Nat) (n : Nat) (hn : n ≠ 0) (w : World) : Calls Tryz.prog 102 #[errV k, .iface 68 (.int .i64 n)] w fun e w' => e = .returned (.bool (decide (k = n))) ∧ w' = w := by
  by_cases h : k = 0
  · subst h
    rw [decide_eq_false (by omega)]
    exact is_nil n w
  · rw [errV_not h]
    have := is_num k n w
    rw [show ((k : Int) == (n : Int)) = decide (k = n) by rw [Bool.eq_iff_iff]; simp; omega] at this
    exact this
set_option maxRecDepth 100000 in
set_option maxHeartbeats 1000000 in
theorem number_ (a : Option Addr) (xs : List Nat) (c : Nat) (w : World) (h : BytesIn w a xs) (hb : ∀ x ∈ xs, x < 256) (hlim : xs.length ≤ 9223372036854775807) :
    Calls Tryz.prog 92 #[.slice a xs.length c] w fun e w' => e = .returned (.tuple #[.int .u64 (nbr xs).1, .int .i64 (nbr xs).2.1, errV (nbr xs).2.2]) ∧ w' = w := by
  have HU := Lib.hid (uint_ a xs c w h hb hlim)
  have HI := Lib.hid (is_ (rdU xs).2.2 3 (by decide) w)
  have HN : Hid ((rdU xs).2.2 = 3 → nbr xs = (0, 0, 11)) := Lib.hid fun hh => if_pos hh
  have HM : Hid ((rdU xs).2.2 ≠ 3 → nbr xs = rdU xs) := Lib.hid fun hh => if_neg hh
  generalize nbr xs = N at *
  generalize rdU xs = R at *
  obtain ⟨v, k, e⟩ := R
  simp only at HU HI HN HM
  clear h hb
  generalize xs.length = len at *
  by_cases h3 : e = 3
  · have hN := HN.out h3
    subst hN
    rw [decide_eq_true h3] at HI
    generalize errV e = ev at *
    have ev11 : errV 11 = .iface 68 (.int .i64 11) := rfl
    simp only [ev11]
    clear HN HM h3
    go_enter Tryz.func92, Tryz.ntmps92
    go_wp2_with fail
    refine HU.out.mono ?_
    rintro e w1 ⟨rfl, rfl⟩
    go_wp2_with fail
    refine HI.out.mono ?_
    rintro e w2 ⟨rfl, rfl⟩
    go_wp2_with fail
    go_ret3
    exact ⟨rfl, rfl⟩
  · have hN := HM.out h3
    subst hN
    rw [decide_eq_false h3] at HI
    simp only
    generalize errV e = ev at *
    clear HN HM h3
    go_enter Tryz.func92, Tryz.ntmps92
    go_wp2_with fail
    refine HU.out.mono ?_
    rintro e w1 ⟨rfl, rfl⟩
    go_wp2_with fail
    refine HI.out.mono ?_
    rintro e w2 ⟨rfl, rfl⟩
    go_wp2_with fail
    go_ret3
    exact ⟨rfl, rfl⟩
end Go.Proofs.YtjnhcanohefjiaaGreatDoor
