/- The walks of slices.IndexFunc and ContainsFunc at columns, of table's placeOf, ofKey, holdable and Column. -/
import Derived.Test.YtlgnllnjhpihdaaDoorTbRName2
namespace Go.Proofs.YtlgnllnjhpihdaaDoor
open Go.RowKit Go.Sort

/-- The place of the first of which something is so, or -1. -/
def idxP {α : Type} (p : α → Bool) (cs : List α) : Int := match cs.findIdx? p with
  | some i => i
  | none => -1
theorem idxP_at {α : Type} {p : α → Bool} {cs : List α} {i : Nat} (hi : i < cs.length) (h : ∀ j (hj : j < cs.length), j < i → p cs[j] = false) (h1 : p cs[i] = true) : idxP p cs = i := by
  have : cs.findIdx? p = some i := List.findIdx?_eq_some_iff_getElem.2 ⟨hi, h1, fun j hj => by simpa using h j (by omega) hj⟩
  rw [idxP, this]
theorem idxP_none {α : Type} {p : α → Bool} {cs : List α} (h : ∀ j (hj : j < cs.length), p cs[j] = false) : idxP p cs = -1 := by
  have : cs.findIdx? p = none := List.findIdx?_eq_none_iff.2 fun x hx => by
    obtain ⟨j, hj, rfl⟩ := List.getElem_of_mem hx
    exact h j hj
  rw [idxP, this]
theorem idxP_any {α : Type} (p : α → Bool) (cs : List α) : (cs.any p = true ∧ ∃ i : Nat, idxP p cs = i ∧ i < cs.length) ∨ (cs.any p = false ∧ idxP p cs = -1) := by
  cases h : cs.findIdx? p with
  | none =>
    right
    refine ⟨?_, by rw [idxP, h]⟩
    rw [List.any_eq_false]
    intro x hx
    simpa using List.findIdx?_eq_none_iff.1 h x hx
  | some i =>
    left
    obtain ⟨h1, h2, _⟩ := List.findIdx?_eq_some_iff_getElem.1 h
    exact ⟨List.any_eq_true.2 ⟨cs[i], List.getElem_mem _, h2⟩, i, by rw [idxP, h], h1⟩
def agC (c : Col) : Value := .agg #[.string c.nm, .int .i64 c.k, .bool c.key, .bool c.nul]
set_option maxHeartbeats 1000000 in
theorem indexC_ (g : Nat) (lb : Array Value) (p : Col → Bool) (a : Option Addr) (c : Nat) (cs : List Col) (w : World) (eg : ∀ args w, (callFunc g args).run Tryd.prog w = .ok (.enter g args) w)
    (hp : ∀ W x, Below w.heap.size w W → Calls Tryd.prog g (#[agC x] ++ lb) W fun e w' => e = .returned (.bool (p x)) ∧ Below W.heap.size W w') (h : ColsIn w a cs) (hl : cs.length ≤ 140737488355328) :
    Calls Tryd.prog 47 #[.slice a cs.length c, .func (.func g) #[] lb] w fun e w' => e = .returned (.int .i64 (idxP p cs)) ∧ Below w.heap.size w w' := by
  have HI := Lib.hid h
  have HP := Lib.hid hp
  obtain ⟨L, hL⟩ : ∃ L, cs.length = L := ⟨_, rfl⟩
  have HL := Lib.hid hL
  rw [hL] at hl
  rw [hL]
  obtain ⟨R, hR⟩ : ∃ R, idxP p cs = R := ⟨_, rfl⟩
  have HQ := Lib.hid hR
  rw [hR]
  clear h hp hL hR
  go_enter Tryd.func47, Tryd.ntmps47
  go_wp2_with fail
  go_loopw [5, 8] (fun s5 iv wr => ∃ i : Nat, i ≤ L ∧ iv = .int .i64 i ∧ Hid (∀ j (hj : j < cs.length), j < i → p cs[j] = false) ∧ Hid (Below w.heap.size w wr)) (fun _ iv _ => L - (intOf iv).toNat)
  case atStart => exact ⟨0, Nat.zero_le _, rfl, fun j _ hj => by omega, Below.refl _ _⟩
  case round =>
    obtain ⟨i, hi, rfl, HV, HB⟩ := hrel
    by_cases hlt : i < L
    · have hlt2 : (i : Int) < (L : Int) := by omega
      have hin : i < cs.length := by rw [HL.out]; exact hlt
      obtain ⟨b, o, rfl, nm, k, y, nl, hci, q0, q1, q2, q3⟩ := ColsIn.get (HI.out.on HB.out) i hin
      have HC := Lib.hid (HP.out wr ⟨nm, k, y, nl⟩ HB.out)
      have HE := Lib.hid hci
      clear hci
      cases hb : p ⟨nm, k, y, nl⟩ with
      | true =>
        rw [hb] at HC
        have HF : Hid (R = i) := by
          show _ = _
          rw [← HQ.out]; exact idxP_at hin HV.out (by rw [HE.out]; exact hb)
        clear hb HE HV
        go_wp2_with (first | (go_at_fn g; refine HC.out.mono ?_; rintro e w1 ⟨rfl, hb1⟩) | fail)
        go_ret
        exact ⟨by rw [HF.out]; rfl, below_step HB.out hb1⟩
      | false =>
        rw [hb] at HC
        have HV2 : Hid (∀ j (hj : j < cs.length), j < i + 1 → p cs[j] = false) := fun j hj hji => by
          rcases Nat.lt_or_ge j i with hh | hh
          · exact HV.out j hj hh
          · obtain rfl : j = i := by omega
            rw [HE.out]; exact hb
        clear hb HE HV
        go_wp2_with (first | (go_at_fn g; refine HC.out.mono ?_; rintro e w1 ⟨rfl, hb1⟩) | fail)
        have HB1 := Lib.hid (below_step HB.out hb1)
        clear hb1
        go_roundw
        case rel => exact ⟨i + 1, by omega, by go_num, HV2, HB1⟩
        case measure => simp [intOf]; omega
    · obtain rfl : i = L := by omega
      have HF : Hid (R = -1) := by
        show _ = _
        rw [← HQ.out]; exact idxP_none fun j hj => HV.out j hj (by rw [← HL.out]; exact hj)
      clear HV
      go_wp2_with fail
      go_ret
      exact ⟨by rw [HF.out]; rfl, HB.out⟩
set_option maxHeartbeats 1000000 in
theorem placeOf1_ (x : Col) (nm : ByteArray) (B : Nat) (W : World) (hB : W.cell? ⟨B, 0, none⟩ = some (.string nm)) :
    Calls Tryd.prog 48 (#[agC x] ++ #[.pointer (some ⟨B, 0, none⟩)]) W fun e w' => e = .returned (.bool (lst x.nm == lst nm)) ∧ Below W.heap.size W w' := by
  show Calls Tryd.prog 48 #[.agg #[.string x.nm, .int .i64 x.k, .bool x.key, .bool x.nul], .pointer (some ⟨B, 0, none⟩)] W _
  have h1 : (W.alloc (.cells #[.string x.nm, .int .i64 x.k, .bool x.key, .bool x.nul] 55)).cell? ⟨B, 0, none⟩ = some (.string nm) := ((below_alloc1 W _).cell (block_lt_of_cell hB)).trans hB
  rw [← beq_lst]
  go_enter Tryd.func48, Tryd.ntmps48
  go_wp2_with fail
  go_ret
  exact ⟨rfl, below_alloc1 _ _⟩
set_option maxHeartbeats 1000000 in
theorem ofKey_ (x : Col) (W : World) : Calls Tryd.prog 38 (#[agC x] ++ #[]) W fun e w' => e = .returned (.bool x.key) ∧ Below W.heap.size W w' := by
  show Calls Tryd.prog 38 #[.agg #[.string x.nm, .int .i64 x.k, .bool x.key, .bool x.nul]] W _
  go_enter Tryd.func38, Tryd.ntmps38
  go_wp2_with fail
  go_ret
  exact ⟨rfl, below_alloc1 _ _⟩
theorem enters48 : ∀ args w, (callFunc 48 args).run Tryd.prog w = .ok (.enter 48 args) w := enters_of Tryd.func48 (by kernel_rfl) rfl
theorem enters38 : ∀ args w, (callFunc 38 args).run Tryd.prog w = .ok (.enter 38 args) w := enters_of Tryd.func38 (by kernel_rfl) rfl
/-- The first column of a name. -/
def isN (nm : ByteArray) (x : Col) : Bool := lst x.nm == lst nm
set_option maxHeartbeats 1000000 in
theorem placeOf_ (nm : ByteArray) (a : Option Addr) (c : Nat) (cs : List Col) (w : World) (h : ColsIn w a cs) (hl : cs.length ≤ 140737488355328) :
    Calls Tryd.prog 31 #[.slice a cs.length c, .string nm] w fun e w' => e = .returned (.int .i64 (idxP (isN nm) cs)) ∧ Below w.heap.size w w' := by
  have HB : Hid (Below w.heap.size w (w.alloc (.cells #[.string nm] 9))) := below_alloc1 _ _
  have HX := Lib.hid (indexC_ 48 #[.pointer (some ⟨w.heap.size, 0, none⟩)] (isN nm) a c cs (w.alloc (.cells #[.string nm] 9)) enters48 (fun W x hb => placeOf1_ x nm w.heap.size W ((hb.cell (by simp)).trans (by simp [go_sem]))) (h.on HB.out) hl)
  generalize idxP (isN nm) cs = R at *
  generalize cs.length = L at *
  clear h
  go_enter Tryd.func31, Tryd.ntmps31
  go_wp2_with (first | (go_at_call 47; refine HX.out.mono ?_; rintro e w1 ⟨rfl, hb1⟩) | fail)
  go_ret
  exact ⟨rfl, below_step HB.out hb1⟩
set_option maxHeartbeats 1000000 in
theorem containsKey_ (a : Option Addr) (c : Nat) (cs : List Col) (w : World) (h : ColsIn w a cs) (hl : cs.length ≤ 140737488355328) :
    Calls Tryd.prog 37 #[.slice a cs.length c, .func (.func 38) #[] #[]] w fun e w' => e = .returned (.bool (cs.any (·.key))) ∧ Below w.heap.size w w' := by
  have HX := Lib.hid (indexC_ 38 #[] (·.key) a c cs w enters38 (fun W x _ => ofKey_ x W) h hl)
  have hany := idxP_any (fun x : Col => x.key) cs
  generalize idxP (fun x : Col => x.key) cs = R at *
  generalize cs.any (fun x => x.key) = A at *
  generalize cs.length = L at *
  clear h
  rcases hany with ⟨rfl, i, rfl, _⟩ | ⟨rfl, rfl⟩
  · have h0 : (0 : Int) ≤ (i : Int) := by omega
    go_enter Tryd.func37, Tryd.ntmps37
    go_wp2_with (first | (go_at_call 47; refine HX.out.mono ?_; rintro e w1 ⟨rfl, hb1⟩) | fail)
    go_ret
    exact ⟨rfl, hb1⟩
  · go_enter Tryd.func37, Tryd.ntmps37
    go_wp2_with (first | (go_at_call 47; refine HX.out.mono ?_; rintro e w1 ⟨rfl, hb1⟩) | fail)
    go_ret
    exact ⟨rfl, hb1⟩
end Go.Proofs.YtlgnllnjhpihdaaDoor
