/- The walks of (*Lattice).Label and Find, and of the document's own Find. -/
import Derived.Test.YtoompephogamaaaGreatDoorParse
import Derived.Maps.OwnOps
import Derived.BigQuiet
namespace Go.Proofs.YtoompephogamaaaGreatDoor
open Go.RowKit Go.Sort

set_option maxHeartbeats 1000000 in
set_option maxRecDepth 100000 in
theorem label_no (v : Value) (i : Int) (ls : List Lab) (w : World) (h : LatIn w v ls) (hi : isAt ls i = false) :
    Calls Tryz.prog 12 #[v, .int .i64 i] w fun e w' => e = .returned (.tuple #[.agg #[.int .i64 0, .int .u32 0], .iface 49 (.int .i64 1)]) ∧ Below w.heap.size w w' := by
  have hal : Below w.heap.size w (w.alloc (.cells #[.int .i64 0, .int .u32 0] 25)) := (Below.refl _ _).alloc (Nat.le_refl _) _
  have HH := Lib.hid (has_ v i ls _ (h.on hal))
  rw [hi] at HH
  clear h hi
  go_enter Tryz.func12, Tryz.ntmps12
  go_wp2_with fail
  refine HH.out.mono ?_
  rintro e w1 ⟨rfl, rfl⟩
  go_wp2_with fail
  exact bodyPost_ret (v := .tuple #[.agg #[.int .i64 0, .int .u32 0], .iface 49 (.int .i64 1)]) (by simp [results, Tryz.results12, go_sem]) rfl ⟨rfl, hal⟩
set_option maxHeartbeats 1000000 in
set_option maxRecDepth 100000 in
theorem label_yes (v : Value) (n : Nat) (ls : List Lab) (w : World) (h : LatIn w v ls) (hn : n < ls.length) :
    Calls Tryz.prog 12 #[v, .int .i64 n] w fun e w' => e = .returned (.tuple #[.agg #[.int .i64 (lab ls n).1, .int .u32 (lab ls n).2], .nilIface]) ∧ Below w.heap.size w w' := by
  have hal : Below w.heap.size w (w.alloc (.cells #[.int .i64 0, .int .u32 0] 25)) := (Below.refl _ _).alloc (Nat.le_refl _) _
  have HH := Lib.hid (has_ v n ls _ (h.on hal))
  rw [isAt_nat.2 hn] at HH
  rcases h with ⟨rfl, rfl⟩ | ⟨p, a, c, mm, rfl, h2, h3, _, _⟩
  · simp at hn
  obtain ⟨b, o, rfl, n1, n2⟩ := h3 n hn
  have h2' := (hal.cell (block_lt_of_cell h2)).trans h2
  have n1' := (hal.cell (block_lt_of_cell n1)).trans n1
  have n2' := (hal.cell (block_lt_of_cell n2)).trans n2
  clear h2 h3 n1 n2
  generalize (lab ls n).1 = r at *
  generalize (lab ls n).2 = cc at *
  generalize ls.length = N at *
  go_enter Tryz.func12, Tryz.ntmps12
  go_wp2_with fail
  refine HH.out.mono ?_
  rintro e w1 ⟨rfl, rfl⟩
  go_wp2_with fail
  exact bodyPost_ret (v := .tuple #[.agg #[.int .i64 r, .int .u32 cc], .nilIface]) (by simp [results, Tryz.results12, go_sem]) rfl ⟨rfl, (Below.refl _ _).alloc (Nat.le_refl _) _⟩

/-- The place of a label; 0 and the error 8, if it has no such label. -/
def placeOf (ls : List Lab) (x : Lab) : Nat := if x ∈ ls then ls.idxOf x else 0
def missOf (ls : List Lab) (x : Lab) : Int := if x ∈ ls then 0 else 8
theorem place_at {ls : List Lab} {x : Lab} (h : x ∈ ls) : ls.idxOf x < ls.length ∧ lab ls (ls.idxOf x) = x := by
  have hl := List.idxOf_lt_length_iff.2 h
  refine ⟨hl, ?_⟩
  unfold lab
  rw [List.getD_eq_getElem?_getD, List.getElem?_eq_getElem hl]
  simp

theorem map_on {w W : World} {m n : Nat} {D : DataW Unit} (h : w.ownsMap Tryz.prog 25 (plainElem Tryz.prog 3) m n D) (hb : Below w.heap.size w W) : W.ownsMap Tryz.prog 25 (plainElem Tryz.prog 3) m n D := by
  have hlt := h.lt
  obtain ⟨es, clock, k1, k2, k3, k4⟩ := h
  exact ⟨es, clock, (hb.block m hlt).trans k1, k2, k3, k4⟩
/-- A label looked up. -/
theorem look_ {W : World} {m n : Nat} {D : DataW Unit} {key : Value} {kl : Lit} (h : W.ownsMap Tryz.prog 25 (plainElem Tryz.prog 3) m n D) (hkey : keyOf Tryz.prog 25 key = some kl) :
    ∃ c : Int, (Instr.lookup 51 (.map (some m)) key true).run Tryz.prog W = .ok (.tuple #[.int .i64 c, .bool (Maps.has D kl)]) W ∧ D.atKey kl (.lit (.int .i64 0)) = .lit (.int .i64 c) := by
  obtain ⟨v, ps, hrun, hv⟩ := h.look_ok law Tryz.underlying51 (zero3 W) (plainElem_int (H := Unit) Tryz.underlying3 (show (Lit.int .i64 0).wf = true by decide)) hkey
  obtain ⟨c, rfl, hc, _⟩ := plainElem_int_inv Tryz.underlying3 hv
  exact ⟨c, hrun, congrArg Prod.fst hc⟩

set_option maxHeartbeats 2000000 in
set_option maxRecDepth 100000 in
theorem find_yes (q : Nat) (x : Lab) (ls : List Lab) (w : World) (h : LatIn w (.pointer (some ⟨q, 0, none⟩)) ls) (hx : okW x) (hm : x ∈ ls) :
    Calls Tryz.prog 10 #[.pointer (some ⟨q, 0, none⟩), .agg #[.int .i64 x.1, .int .u32 x.2]] w fun e w' => e = .returned (.tuple #[.int .i64 (ls.idxOf x), .nilIface]) ∧ Below w.heap.size w w' := by
  rcases h with ⟨e, _⟩ | ⟨p, a, c, m, e, h2, h3, h4, n, D, hown, hnn, hF⟩
  · cases e
  simp only [Value.pointer.injEq, Option.some.injEq, Addr.mk.injEq] at e
  obtain ⟨rfl, _⟩ := e
  obtain ⟨kl, hkey⟩ := key_some x hx
  obtain ⟨pl1, pl2⟩ := place_at hm
  obtain ⟨f1, f2⟩ := (hF x kl hkey).2 _ pl1 pl2
  have hal : Below w.heap.size w (w.alloc (.cells #[.int .i64 x.1, .int .u32 x.2] 25)) := (Below.refl _ _).alloc (Nat.le_refl _) _
  have h4' := (hal.cell (block_lt_of_cell h4)).trans h4
  have hlook : ∀ j, (Instr.lookup 51 (.map (some m)) (.agg #[.int .i64 x.1, .int .u32 x.2]) true).run Tryz.prog ((w.alloc (.cells #[.int .i64 x.1, .int .u32 x.2] 25)).drewN j) = .ok (.tuple #[.int .i64 (ls.idxOf x), .bool true]) ((w.alloc (.cells #[.int .i64 x.1, .int .u32 x.2] 25)).drewN j) := fun j => by
    obtain ⟨c', hr, hc'⟩ := look_ (map_on hown (hal.trans ((below_drewN' _ j).mono hal.size))) hkey
    rw [f2] at hc'
    rw [f1] at hr
    have : c' = (ls.idxOf x : Nat) := by simpa using hc'.symm
    rw [this] at hr
    exact hr
  clear h2 h3 h4 hown hF hkey f1 f2 hm hx
  generalize ls.idxOf x = ix at *
  generalize x.1 = r at *
  generalize x.2 = cc at *
  go_enter Tryz.func10, Tryz.ntmps10
  go_wp2_with fail
  go_quiet (fail)
  have hbq : Below w.heap.size w ((w.alloc (.cells #[.int .i64 r, .int .u32 cc] 25)).drewN nq) := hal.trans ((below_drewN' _ nq).mono hal.size)
  generalize (w.alloc (.cells #[.int .i64 r, .int .u32 cc] 25)).drewN nq = W2 at *
  clear hlook h4'
  go_wp2_with fail
  go_ret2
  exact ⟨rfl, hbq⟩

set_option maxHeartbeats 2000000 in
set_option maxRecDepth 100000 in
theorem find_no (q : Nat) (x : Lab) (ls : List Lab) (w : World) (h : LatIn w (.pointer (some ⟨q, 0, none⟩)) ls) (hx : okW x) (hm : x ∉ ls) :
    Calls Tryz.prog 10 #[.pointer (some ⟨q, 0, none⟩), .agg #[.int .i64 x.1, .int .u32 x.2]] w fun e w' => e = .returned (.tuple #[.int .i64 0, .iface 49 (.int .i64 8)]) ∧ Below w.heap.size w w' := by
  rcases h with ⟨e, _⟩ | ⟨p, a, c, m, e, h2, h3, h4, n, D, hown, hnn, hF⟩
  · cases e
  simp only [Value.pointer.injEq, Option.some.injEq, Addr.mk.injEq] at e
  obtain ⟨rfl, _⟩ := e
  obtain ⟨kl, hkey⟩ := key_some x hx
  have f1 := (hF x kl hkey).1 hm
  have hal : Below w.heap.size w (w.alloc (.cells #[.int .i64 x.1, .int .u32 x.2] 25)) := (Below.refl _ _).alloc (Nat.le_refl _) _
  have h4' := (hal.cell (block_lt_of_cell h4)).trans h4
  obtain ⟨ix, hix⟩ : ∃ ix : Int, D.atKey kl (.lit (.int .i64 0)) = .lit (.int .i64 ix) := by
    obtain ⟨c', _, hc'⟩ := look_ hown hkey
    exact ⟨c', hc'⟩
  have hlook : ∀ j, (Instr.lookup 51 (.map (some m)) (.agg #[.int .i64 x.1, .int .u32 x.2]) true).run Tryz.prog ((w.alloc (.cells #[.int .i64 x.1, .int .u32 x.2] 25)).drewN j) = .ok (.tuple #[.int .i64 ix, .bool false]) ((w.alloc (.cells #[.int .i64 x.1, .int .u32 x.2] 25)).drewN j) := fun j => by
    obtain ⟨c', hr, hc'⟩ := look_ (map_on hown (hal.trans ((below_drewN' _ j).mono hal.size))) hkey
    rw [hix] at hc'
    rw [f1] at hr
    have : c' = ix := by simpa using hc'.symm
    rw [this] at hr
    exact hr
  clear h2 h3 h4 hown hF hkey f1 hm hx hix
  generalize x.1 = r at *
  generalize x.2 = cc at *
  go_enter Tryz.func10, Tryz.ntmps10
  go_wp2_with fail
  go_quiet (fail)
  have hbq : Below w.heap.size w ((w.alloc (.cells #[.int .i64 r, .int .u32 cc] 25)).drewN nq) := hal.trans ((below_drewN' _ nq).mono hal.size)
  generalize (w.alloc (.cells #[.int .i64 r, .int .u32 cc] 25)).drewN nq = W2 at *
  clear hlook h4'
  go_wp2_with fail
  go_ret2
  exact ⟨rfl, hbq⟩
end Go.Proofs.YtoompephogamaaaGreatDoor
