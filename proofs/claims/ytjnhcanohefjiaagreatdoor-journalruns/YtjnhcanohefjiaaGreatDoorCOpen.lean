/- The walk of crc.Open. -/
import Derived.Test.YtjnhcanohefjiaaGreatDoorCEq4
import Derived.Lib.SliceRun
import Derived.Laws.Cover3
namespace Go.Proofs.YtjnhcanohefjiaaGreatDoor
open Go.RowKit Go.Sort

theorem own_empty (w : World) : Own (w.alloc (.cells #[] 5)) w.heap.size (.slice (some ⟨w.heap.size, 0, none⟩) 0 0) [] := World.ownsRow_lit w #[] 0 (Nat.le_refl _) (by decide) rfl
set_option maxRecDepth 100000 in
set_option maxHeartbeats 1000000 in
theorem clone_ (a : Option Addr) (xs : List Nat) (c : Nat) (w : World) (h : BytesIn w a xs) (hc : a = none → c = 0) (hlim : xs.length ≤ 140737488355328) :
    Calls Tryz.prog 26 #[.slice a xs.length c] w (Made w xs) := by
  have HB := Lib.hid h
  have HC := Lib.hid hc
  clear h hc
  obtain ⟨len, hlen⟩ : ∃ len, xs.length = len := ⟨_, rfl⟩
  have HL := Lib.hid hlen
  rw [hlen] at hlim ⊢
  clear hlen
  have q : ∀ (w : World) (a : Option Addr) (n c n' c' : Nat), (binOp .eql 53 (.slice a n c) (.slice none n' c')).run Tryz.prog w = .ok (.bool a.isNone) w := fun w a n c n' c' => Lib.run_eql_slice_nil w _ _ a n c n' c' Tryz.underlying53
  cases a with
  | none =>
    have hx := bytes_none HB.out
    have hc0 := HC.out rfl
    subst hx hc0
    obtain rfl : 0 = len := HL.out
    go_enter Tryz.func26, Tryz.ntmps26
    go_wp2_with fail
    go_ret
    exact made_of (own_nil _ _) (Below.refl _ _)
  | some ad =>
    go_enter Tryz.func26, Tryz.ntmps26
    go_wp2_with (first
      | (at_builtin; refine wpList_append_bytes _ rfl _ _ rfl w.heap.size _ [] xs rfl (own_empty w) (some ad) len c rfl HL.out HC.out (HB.out.on ((Below.refl _ _).alloc (Nat.le_refl _) _)) (by rw [HL.out]; simpa using hlim) (by simp) ?_
         intro v2 w2 hown hgrow
         have HO := Lib.hid hown
         have Hb := Lib.hid (below_grow ((Below.refl _ _).alloc (Nat.le_refl _) _) (own_empty w) hgrow)
         clear hown hgrow)
      | fail)
    go_ret
    exact made_of HO.out Hb.out
/-- What Open hands back. -/
def Opened (w : World) (ys : List Nat) (er : Nat) (e : Ending) (w' : World) : Prop :=
  ∃ a c, e = .returned (.tuple #[.slice a ys.length c, errV er]) ∧ Own w' w.heap.size (.slice a ys.length c) ys ∧ BytesIn w' a ys ∧ (a = none → c = 0) ∧ Below w.heap.size w w'
theorem opened_nil {w w' : World} {n : Nat} (hb : Below w.heap.size w w') : Opened w [] n (.returned (.tuple #[.slice none 0 0, errV n])) w' :=
  ⟨none, 0, rfl, own_nil _ _, bytesIn_nil _ _, fun _ => rfl, hb⟩
theorem drop_four (xs : List Nat) (cut : Nat) (h : xs.length = cut + 4) : xs.drop cut = [xs.getD cut 0, xs.getD (cut + 1) 0, xs.getD (cut + 2) 0, xs.getD (cut + 3) 0] := by
  apply List.ext_getElem?
  intro i
  rw [List.getElem?_drop]
  match i with
  | 0 => simp [List.getD_eq_getElem?_getD, List.getElem?_eq_getElem (show cut < xs.length by omega)]
  | 1 => simp [List.getD_eq_getElem?_getD, List.getElem?_eq_getElem (show cut + 1 < xs.length by omega)]
  | 2 => simp [List.getD_eq_getElem?_getD, List.getElem?_eq_getElem (show cut + 2 < xs.length by omega)]
  | 3 => simp [List.getD_eq_getElem?_getD, List.getElem?_eq_getElem (show cut + 3 < xs.length by omega)]
  | k + 4 => rw [List.getElem?_eq_none (by omega)]; simp
theorem take_in {w : World} {a : Option Addr} {xs : List Nat} (h : BytesIn w a xs) (n : Nat) : BytesIn w a (xs.take n) := by
  intro i hi
  rw [List.length_take] at hi
  obtain ⟨b, o, e, h1⟩ := h i (by omega)
  refine ⟨b, o, e, ?_⟩
  rw [h1, List.getD_eq_getElem?_getD, List.getD_eq_getElem?_getD, List.getElem?_take, if_pos (by omega)]
theorem errV_12 : errV 12 = .iface 68 (.int .i64 12) := rfl
theorem errV_11 : errV 11 = .iface 68 (.int .i64 11) := rfl
theorem same4 (z0 z1 z2 z3 q0 q1 q2 q3 : Nat) : ((z0 : Int) == q0 && (z1 : Int) == q1 && (z2 : Int) == q2 && (z3 : Int) == q3) = decide ([z0, z1, z2, z3] = [q0, q1, q2, q3]) := by
  rw [Bool.eq_iff_iff]
  simp only [Bool.and_eq_true, beq_iff_eq, decide_eq_true_eq, List.cons.injEq, and_true]
  omega
theorem guardF : Tryz.prog.eqGuardType Tryz.prog.depth 172 = false := by kernel_rfl
set_option maxRecDepth 100000 in
set_option maxHeartbeats 2000000 in
theorem open_ (a : Option Addr) (xs : List Nat) (c : Nat) (w : World) (h : BytesIn w a xs) (hx : ∀ x ∈ xs, x < 256) (hcap : xs.length ≤ c) (hlim : xs.length ≤ 140737488355328) :
    Calls Tryz.prog 75 #[.slice a xs.length c] w (Opened w (opn xs).1 (opn xs).2) := by
  by_cases h4 : xs.length < 4
  · have e : opn xs = ([], 12) := if_pos h4
    rw [e]
    have hlt : decide ((xs.length : Int) - 4 < 0) = true := decide_eq_true (by omega)
    generalize xs.length = len at *
    clear h hx e
    go_enter Tryz.func75, Tryz.ntmps75
    go_wp2_with fail
    go_ret2
    exact opened_nil (Below.refl _ _)
  · obtain ⟨b0, o0, rfl, _⟩ := h 0 (by omega)
    obtain ⟨cut, hcut⟩ : ∃ cut, xs.length = cut + 4 := ⟨xs.length - 4, by omega⟩
    have hd := drop_four xs cut hcut
    have e : opn xs = if xs.drop cut = four (sm 0 (xs.take cut)) then (xs.take cut, 0) else ([], 11) := by
      unfold opn
      rw [if_neg h4, show xs.length - 4 = cut by omega]
    have hlt : (xs.take cut).length = cut := by rw [List.length_take]; omega
    have HS : Hid (∀ W', Below w.heap.size w W' → Calls Tryz.prog 91 #[.slice (some ⟨b0, o0, none⟩) cut c] W' fun e w' => e = .returned (.agg (quad (sm 0 (xs.take cut)))) ∧ Below W'.heap.size W' w') := Lib.hid fun W' hW => by
      have := sealOf_ (some ⟨b0, o0, none⟩) (xs.take cut) c W' (take_in (h.on hW) cut) (fun x hm => hx x (List.mem_of_mem_take hm)) (by omega)
      rw [hlt] at this
      exact this
    have HC : Hid (∀ W', Below w.heap.size w W' → Calls Tryz.prog 26 #[.slice (some ⟨b0, o0, none⟩) cut c] W' (Made W' (xs.take cut))) := Lib.hid fun W' hW => by
      have := clone_ (some ⟨b0, o0, none⟩) (xs.take cut) c W' (take_in (h.on hW) cut) (fun hh => by cases hh) (by omega)
      rw [hlt] at this
      exact this
    have hcell : ∀ k, k < 4 → w.cell? ⟨b0, o0 + (cut + k), none⟩ = some (.int .u8 (xs.getD (cut + k) 0 : Nat)) := fun k hk => by
      obtain ⟨b, o, e, h1⟩ := h (cut + k) (by omega)
      cases e
      exact h1
    have C0 : ∀ W', Below w.heap.size w W' → W'.cell? ⟨b0, o0 + cut, none⟩ = some (.int .u8 (xs.getD cut 0 : Nat)) := fun W' hW => (hW.cell (block_lt_of_cell (hcell 0 (by decide)))).trans (hcell 0 (by decide))
    have C1 : ∀ W', Below w.heap.size w W' → W'.cell? ⟨b0, o0 + cut + 1, none⟩ = some (.int .u8 (xs.getD (cut + 1) 0 : Nat)) := fun W' hW => (hW.cell (block_lt_of_cell (hcell 1 (by decide)))).trans (hcell 1 (by decide))
    have C2 : ∀ W', Below w.heap.size w W' → W'.cell? ⟨b0, o0 + cut + 2, none⟩ = some (.int .u8 (xs.getD (cut + 2) 0 : Nat)) := fun W' hW => (hW.cell (block_lt_of_cell (hcell 2 (by decide)))).trans (hcell 2 (by decide))
    have C3 : ∀ W', Below w.heap.size w W' → W'.cell? ⟨b0, o0 + cut + 3, none⟩ = some (.int .u8 (xs.getD (cut + 3) 0 : Nat)) := fun W' hW => (hW.cell (block_lt_of_cell (hcell 3 (by decide)))).trans (hcell 3 (by decide))
    rw [hd] at e
    rw [hcut] at hcap hlim ⊢
    generalize xs.getD cut 0 = z0 at *
    generalize xs.getD (cut + 1) 0 = z1 at *
    generalize xs.getD (cut + 2) 0 = z2 at *
    generalize xs.getD (cut + 3) 0 = z3 at *
    generalize sm 0 (xs.take cut) = s at *
    obtain ⟨q0, q1, q2, q3, hq, hq'⟩ : ∃ q0 q1 q2 q3 : Nat, four s = [q0, q1, q2, q3] ∧ quad s = #[.int .u8 (q0 : Int), .int .u8 (q1 : Int), .int .u8 (q2 : Int), .int .u8 (q3 : Int)] := ⟨_, _, _, _, rfl, rfl⟩
    rw [hq'] at HS
    rw [hq] at e
    have hneq := fun W => neq4 W z0 z1 z2 z3 q0 q1 q2 q3
    rw [same4] at hneq
    have hm := guardF
    have hat : ∀ (W : World) (a : Option Addr) (cc : Nat), (Instr.arrayAt 172 (.slice a 4 cc)).run Tryz.prog W = .ok (.pointer a) W := fun W a cc => run_arrayAt W 172 _ 4 a 4 cc Tryz.underlying172 (by decide)
    have hcc : ¬ c = cut := by omega
    have hc1 : (cut : Int) ≤ (c : Int) := by omega
    have hc0 : (0 : Int) ≤ (cut : Int) := by omega
    have hc2 : (cut : Int) ≤ (cut : Int) + 4 := by omega
    have hc3 : (cut : Int) ≤ ((cut + 4 : Nat) : Int) := by omega
    clear hcut h4 hcell hd hq hq' h hx
    have E1 : Hid (decide ([z0, z1, z2, z3] = [q0, q1, q2, q3]) = true → opn xs = (xs.take cut, 0)) := Lib.hid fun hh => by rw [e, if_pos (of_decide_eq_true hh)]
    have E0 : Hid (decide ([z0, z1, z2, z3] = [q0, q1, q2, q3]) = false → opn xs = ([], 11)) := Lib.hid fun hh => by rw [e, if_neg (of_decide_eq_false hh)]
    generalize decide ([z0, z1, z2, z3] = [q0, q1, q2, q3]) = be at *
    clear e
    clear hlt
    generalize xs.take cut = ys at *
    go_enter Tryz.func75, Tryz.ntmps75
    go_wp2_with fail
    refine wp_region_noPanic ?_
    go_region_held (fun W' => Below w.heap.size w W') (first | assumption | exact Below.refl _ _ | exact below_drew _ | exact below_step (by assumption) (by assumption))
      (first | (go_at_call 91; refine (HS.out _ (by assumption)).mono ?_; rintro e w' ⟨rfl, hbb⟩) | fail)
    all_goals
      refine NoPanic.normal ?_
      have hbE : Below w.heap.size w w' := by assumption
      have HbE := Lib.hid hbE
      clear hbE C0 C1 C2 C3 hneq hat hm hbb
      cases be with
      | true =>
        go_wp2_with fail
        refine (HC.out w' HbE.out).mono ?_
        rintro e w2 ⟨a2, c2, rfl, hO, hI, hN, hb2⟩
        have HO := Lib.hid hO
        have HI := Lib.hid hI
        have HN := Lib.hid hN
        have Hb2 := Lib.hid (below_step HbE.out hb2)
        have hs := HbE.out.size
        clear hO hI hN hb2
        go_wp2_with fail
        go_ret2
        rw [E1.out trivial]
        exact ⟨a2, c2, rfl, HO.out.lower hs, HI.out, HN.out, Hb2.out⟩
      | false =>
        go_wp2_with fail
        go_ret2
        rw [E0.out trivial]
        exact opened_nil HbE.out
end Go.Proofs.YtjnhcanohefjiaaGreatDoor
