/- The walk of table's Name; The walks of slices.IndexFunc and ContainsFunc at columns, of table's placeOf, ofKey, holdable and Column; The walks of table's holdable, checkColumn and Check. -/
import Derived.Test.YtalmanfjiblhcaaGreatJ4
namespace Go.Proofs.YtalmanfjiblhcaaGreat.Tb
open Go.RowKit Go.Sort
theorem lst_at (s : ByteArray) (i : Nat) (h : i < s.size) : (lst s)[i]'(by rw [← size_lst]; exact h) = s[i] := rfl
theorem all_ok {s : ByteArray} (h : ∀ j (hj : j < s.size), okB s[j] = true) : (lst s).all okB = true := by
 rw [List.all_eq_true]
 intro x hx
 obtain ⟨j, hj, rfl⟩ := List.getElem_of_mem hx
 exact h j (by rw [size_lst]; exact hj)
theorem head_at {s : ByteArray} (h : 0 < s.size) : headOk (lst s) = smallB s[0] := by
 obtain ⟨⟨l⟩⟩ := s
 cases l with
 | nil => exact absurd h (by decide)
 | cons a l => rfl
theorem name_empty {s : ByteArray} (h : s.size = 0) : nameL (lst s) = false := by
 have : lst s = [] := List.eq_nil_of_length_eq_zero (by rw [← size_lst]; exact h)
 rw [this]; rfl
theorem name_long {s : ByteArray} (h : ¬ s.size ≤ 32) : nameL (lst s) = false := by
 have : decide ((lst s).length ≤ 32) = false := decide_eq_false (by rw [← size_lst]; exact h)
 simp [nameL, this]
theorem name_head {s : ByteArray} (h : 0 < s.size) (h1 : smallB s[0] = false) : nameL (lst s) = false := by
 have := head_at h
 simp [nameL, this, h1]
theorem name_bad {s : ByteArray} {i : Nat} (h : i < s.size) (h1 : okB s[i] = false) : nameL (lst s) = false := by
 have : (lst s).all okB = false := by
  rw [List.all_eq_false]
  exact ⟨(lst s)[i]'(by rw [← size_lst]; exact h), List.getElem_mem _, by rw [lst_at s i h, h1]; decide⟩
 simp [nameL, this]
theorem name_end {s : ByteArray} (h : 0 < s.size) (h32 : s.size ≤ 32) (h1 : smallB s[0] = true) (h2 : ∀ j (hj : j < s.size), okB s[j] = true) : nameL (lst s) = !resL (lst s) := by
 have e1 := head_at h
 have e2 := all_ok h2
 have e3 : decide ((lst s).length ≤ 32) = true := decide_eq_true (by rw [← size_lst]; exact h32)
 simp only [nameL, e1, h1, e2, e3, Bool.true_and]
set_option maxHeartbeats 1000000 in
theorem name_ (s : ByteArray) (w : World) : Calls Tryz.prog 63 #[.string s] w fun e w' => e = .returned (.bool (nameL (lst s))) ∧ w' = w := by
 have HS : Hid (∀ c W, Calls Tryz.prog 100 #[.int .u8 (UInt8.toNat c : Int)] W fun e w' => e = .returned (.bool (smallB c)) ∧ w' = W) := fun c W => small_ c W
 have HD : Hid (∀ c W, Calls Tryz.prog 101 #[.int .u8 (UInt8.toNat c : Int)] W fun e w' => e = .returned (.bool (digitB c)) ∧ w' = W) := fun c W => digit_ c W
 have HR := Lib.hid (reserved_ s w)
 obtain ⟨n, hn⟩ : ∃ n, s.size = n := ⟨_, rfl⟩
 have HN := Lib.hid hn
 obtain ⟨R, hR⟩ : ∃ R, nameL (lst s) = R := ⟨_, rfl⟩
 have HQ := Lib.hid hR
 rw [hR]
 clear hR
 by_cases h0 : n = 0
 · have HF : Hid (R = false) := by
    show _ = _
    rw [← HQ.out]; exact name_empty (by rw [HN.out]; exact h0)
   have h1 : (s.toList == []) = true := by
    rw [toList_lst, List.eq_nil_of_length_eq_zero (l := lst s) (by rw [← size_lst, HN.out]; exact h0)]; rfl
   clear h0 hn
   go_enter Tryz.func63, Tryz.ntmps63
   go_wp2_with fail
   go_ret
   exact ⟨by rw [HF.out]; rfl, rfl⟩
 have h1 : (s.toList == []) = false := by
  rw [toList_lst]
  cases e : lst s with
  | nil => exact absurd (by rw [← HN.out, size_lst, e]; rfl) h0
  | cons a l => rfl
 by_cases h32 : n ≤ 32
 · have h2 : ¬ ((32 : Int) < (n : Int)) := by omega
   have h3 : (0 : Int) < (n : Int) := by omega
   have hs0 : 0 < s.size := by rw [hn]; omega
   cases hh : smallB s[0] with
   | false =>
     have HF : Hid (R = false) := by
      show _ = _
      rw [← HQ.out]; exact name_head hs0 hh
     go_enter Tryz.func63, Tryz.ntmps63
     go_wp2_with (first | (go_at_call 100; refine (HS.out _ _).mono ?_; rintro e w1 ⟨rfl, rfl⟩; rw [hh]) | fail)
     go_ret
     exact ⟨by rw [HF.out]; rfl, rfl⟩
   | true =>
     have HH := Lib.hid hh
     go_enter Tryz.func63, Tryz.ntmps63
     go_wp2_with (first | (go_at_call 100; refine (HS.out _ _).mono ?_; rintro e w1 ⟨rfl, rfl⟩; rw [hh]) | fail)
     clear hh h1
     go_loopw [19] (fun iv wr => ∃ i : Nat, i ≤ n ∧ iv = .int .i64 i ∧ wr = w1 ∧ Hid (∀ j (hj : j < s.size), j < i → okB s[j] = true)) (fun iv _ => n - (intOf iv).toNat)
     case atStart => exact ⟨0, Nat.zero_le _, rfl, rfl, fun j _ hj => by omega⟩
     case round =>
      obtain ⟨i, hi, rfl, rfl, HV⟩ := hrel
      by_cases hlt : i < n
      · have hlt2 : (i : Int) < (n : Int) := by omega
        have hin : i < s.size := by rw [hn]; exact hlt
        obtain ⟨c, hc⟩ : ∃ c, s[i] = c := ⟨_, rfl⟩
        have HC : Hid (s[i] = c) := hc
        have HV2 : Hid (okB c = true → ∀ j (hj : j < s.size), j < i + 1 → okB s[j] = true) := fun ho j hj hji => by
         rcases Nat.lt_or_ge j i with hh | hh
         · exact HV.out j hj hh
         · obtain rfl : j = i := by omega
           rw [HC.out]; exact ho
        have HF : Hid (okB c = false → R = false) := fun ho => by
         rw [← HQ.out]; exact name_bad hin (by rw [HC.out]; exact ho)
        cases hs : smallB c with
        | true =>
          have HV3 := Lib.hid (HV2.out (by simp [okB, hs]))
          clear HV HV2 HF HC
          go_wp2_with (first | (go_at_call 100; refine (HS.out _ _).mono ?_; rintro e w1 ⟨rfl, rfl⟩; rw [hs]) | fail)
          go_roundw
          case rel => exact ⟨i + 1, by omega, by go_num, by trivial, HV3⟩
          case measure => simp [intOf]; omega
        | false =>
          cases hd : digitB c with
          | true =>
            have HV3 := Lib.hid (HV2.out (by simp [okB, hd]))
            clear HV HV2 HF HC
            go_wp2_with (first | (go_at_call 100; refine (HS.out _ _).mono ?_; rintro e w1 ⟨rfl, rfl⟩; rw [hs]) | (go_at_call 101; refine (HD.out _ _).mono ?_; rintro e w1 ⟨rfl, rfl⟩; rw [hd]) | fail)
            go_roundw
            case rel => exact ⟨i + 1, by omega, by go_num, by trivial, HV3⟩
            case measure => simp [intOf]; omega
          | false =>
            by_cases h95 : c.toNat = 95
            · have HV3 := Lib.hid (HV2.out (by simp [okB, h95]))
              have e5 : ((c.toNat : Int) != 95) = false := by rw [h95]; rfl
              clear HV HV2 HF HC h95
              go_wp2_with (first | (go_at_call 100; refine (HS.out _ _).mono ?_; rintro e w1 ⟨rfl, rfl⟩; rw [hs]) | (go_at_call 101; refine (HD.out _ _).mono ?_; rintro e w1 ⟨rfl, rfl⟩; rw [hd]) | fail)
              go_roundw
              case rel => exact ⟨i + 1, by omega, by go_num, by trivial, HV3⟩
              case measure => simp [intOf]; omega
            · have HF2 := Lib.hid (HF.out (by simp [okB, hs, hd, h95]))
              have e5 : ((c.toNat : Int) != 95) = true := by simp; omega
              clear HV HV2 HF HC h95
              go_wp2_with (first | (go_at_call 100; refine (HS.out _ _).mono ?_; rintro e w1 ⟨rfl, rfl⟩; rw [hs]) | (go_at_call 101; refine (HD.out _ _).mono ?_; rintro e w1 ⟨rfl, rfl⟩; rw [hd]) | fail)
              go_ret
              exact ⟨by rw [HF2.out]; rfl, rfl⟩
      · obtain rfl : i = n := by omega
        have HF : Hid (R = !resL (lst s)) := by
         show _ = _
         rw [← HQ.out]; exact name_end (by rw [HN.out]; omega) (by rw [HN.out]; exact h32) HH.out (fun j hj => HV.out j hj (by rw [← HN.out]; exact hj))
        clear HV
        go_wp2_with (first | (go_at_call 102; refine HR.out.mono ?_; rintro e w1 ⟨rfl, rfl⟩) | fail)
        go_ret
        exact ⟨by rw [HF.out]; rfl, rfl⟩
 · have HF : Hid (R = false) := by
    show _ = _
    rw [← HQ.out]; exact name_long (by rw [HN.out]; exact h32)
   have h2 : ((32 : Int) < (n : Int)) := by omega
   go_enter Tryz.func63, Tryz.ntmps63
   go_wp2_with fail
   go_ret
   exact ⟨by rw [HF.out]; rfl, rfl⟩
end Go.Proofs.YtalmanfjiblhcaaGreat.Tb
namespace Go.Proofs.YtalmanfjiblhcaaGreat.Tb
open Go.RowKit Go.Sort
def idxP {α : Type} (p : α → Bool) (cs : List α) : Int := match cs.findIdx? p with
 | some i => i
 | none => -1
theorem idxP_at {α : Type} {p : α → Bool} {cs : List α} {i : Nat} (hi : i < cs.length) (h : ∀ j (hj : j < cs.length), j < i → p cs[j] = false) (h1 : p cs[i] = true) : idxP p cs = i := by
 have : cs.findIdx? p = some i := List.findIdx?_eq_some_iff_getElem.2 ⟨hi, h1, fun j hj => by simpa using h j (by omega) hj⟩
 rw [idxP, this]
theorem idxP_none {α : Type} {p : α → Bool} {cs : List α} (h : ∀ j (hj : j < cs.length), p cs[j] = false) : idxP p cs = -1 := by
 have : cs.findIdx? p = none := List.findIdx?_eq_none_iff.2 fun x hx => by
  obtain ⟨j, hj, rfl⟩ := List.getElem_of_mem hx
  exact h j hj
 rw [idxP, this]
theorem idxP_any {α : Type} (p : α → Bool) (cs : List α) : (cs.any p = true ∧ ∃ i : Nat, idxP p cs = i ∧ i < cs.length) ∨ (cs.any p = false ∧ idxP p cs = -1) := by
 cases h : cs.findIdx? p with
 | none =>
   right
   refine ⟨?_, by rw [idxP, h]⟩
   rw [List.any_eq_false]
   intro x hx
   simpa using List.findIdx?_eq_none_iff.1 h x hx
 | some i =>
   left
   obtain ⟨h1, h2, _⟩ := List.findIdx?_eq_some_iff_getElem.1 h
   exact ⟨List.any_eq_true.2 ⟨cs[i], List.getElem_mem _, h2⟩, i, by rw [idxP, h], h1⟩
def agC (c : Col) : Value := .agg #[.string c.nm, .int .i64 c.k, .bool c.key, .bool c.nul]
set_option maxHeartbeats 1000000 in
theorem indexC_ (g : Nat) (lb : Array Value) (p : Col → Bool) (a : Option Addr) (c : Nat) (cs : List Col) (w : World) (eg : ∀ args w, (callFunc g args).run Tryz.prog w = .ok (.enter g args) w)
 (hp : ∀ W x, Below w.heap.size w W → Calls Tryz.prog g (#[agC x] ++ lb) W fun e w' => e = .returned (.bool (p x)) ∧ Below W.heap.size W w') (h : ColsIn w a cs) (hl : cs.length ≤ 140737488355328) :
 Calls Tryz.prog 105 #[.slice a cs.length c, .func (.func g) #[] lb] w fun e w' => e = .returned (.int .i64 (idxP p cs)) ∧ Below w.heap.size w w' := by
 have HI := Lib.hid h
 have HP := Lib.hid hp
 obtain ⟨L, hL⟩ : ∃ L, cs.length = L := ⟨_, rfl⟩
 have HL := Lib.hid hL
 rw [hL] at hl
 rw [hL]
 obtain ⟨R, hR⟩ : ∃ R, idxP p cs = R := ⟨_, rfl⟩
 have HQ := Lib.hid hR
 rw [hR]
 clear h hp hL hR
 go_enter Tryz.func105, Tryz.ntmps105
 go_wp2_with fail
 go_loopw [5, 8] (fun s5 iv wr => ∃ i : Nat, i ≤ L ∧ iv = .int .i64 i ∧ Hid (∀ j (hj : j < cs.length), j < i → p cs[j] = false) ∧ Hid (Below w.heap.size w wr)) (fun _ iv _ => L - (intOf iv).toNat)
 case atStart => exact ⟨0, Nat.zero_le _, rfl, fun j _ hj => by omega, Below.refl _ _⟩
 case round =>
  obtain ⟨i, hi, rfl, HV, HB⟩ := hrel
  by_cases hlt : i < L
  · have hlt2 : (i : Int) < (L : Int) := by omega
    have hin : i < cs.length := by rw [HL.out]; exact hlt
    obtain ⟨b, o, rfl, nm, k, y, nl, hci, q0, q1, q2, q3⟩ := ColsIn.get (HI.out.on HB.out) i hin
    have HC := Lib.hid (HP.out wr ⟨nm, k, y, nl⟩ HB.out)
    have HE := Lib.hid hci
    clear hci
    cases hb : p ⟨nm, k, y, nl⟩ with
    | true =>
      rw [hb] at HC
      have HF : Hid (R = i) := by
       show _ = _
       rw [← HQ.out]; exact idxP_at hin HV.out (by rw [HE.out]; exact hb)
      clear hb HE HV
      go_wp2_with (first | (go_at_fn g; refine HC.out.mono ?_; rintro e w1 ⟨rfl, hb1⟩) | fail)
      go_ret
      exact ⟨by rw [HF.out]; rfl, below_step HB.out hb1⟩
    | false =>
      rw [hb] at HC
      have HV2 : Hid (∀ j (hj : j < cs.length), j < i + 1 → p cs[j] = false) := fun j hj hji => by
       rcases Nat.lt_or_ge j i with hh | hh
       · exact HV.out j hj hh
       · obtain rfl : j = i := by omega
         rw [HE.out]; exact hb
      clear hb HE HV
      go_wp2_with (first | (go_at_fn g; refine HC.out.mono ?_; rintro e w1 ⟨rfl, hb1⟩) | fail)
      have HB1 := Lib.hid (below_step HB.out hb1)
      clear hb1
      go_roundw
      case rel => exact ⟨i + 1, by omega, by go_num, HV2, HB1⟩
      case measure => simp [intOf]; omega
  · obtain rfl : i = L := by omega
    have HF : Hid (R = -1) := by
     show _ = _
     rw [← HQ.out]; exact idxP_none fun j hj => HV.out j hj (by rw [← HL.out]; exact hj)
    clear HV
    go_wp2_with fail
    go_ret
    exact ⟨by rw [HF.out]; rfl, HB.out⟩
set_option maxHeartbeats 1000000 in
theorem placeOf1_ (x : Col) (nm : ByteArray) (B : Nat) (W : World) (hB : W.cell? ⟨B, 0, none⟩ = some (.string nm)) :
 Calls Tryz.prog 133 (#[agC x] ++ #[.pointer (some ⟨B, 0, none⟩)]) W fun e w' => e = .returned (.bool (lst x.nm == lst nm)) ∧ Below W.heap.size W w' := by
 show Calls Tryz.prog 133 #[.agg #[.string x.nm, .int .i64 x.k, .bool x.key, .bool x.nul], .pointer (some ⟨B, 0, none⟩)] W _
 have h1 : (W.alloc (.cells #[.string x.nm, .int .i64 x.k, .bool x.key, .bool x.nul] 112)).cell? ⟨B, 0, none⟩ = some (.string nm) := ((below_alloc1 W _).cell (block_lt_of_cell hB)).trans hB
 rw [← beq_lst]
 go_enter Tryz.func133, Tryz.ntmps133
 go_wp2_with fail
 go_ret
 exact ⟨rfl, below_alloc1 _ _⟩
set_option maxHeartbeats 1000000 in
theorem ofKey_ (x : Col) (W : World) : Calls Tryz.prog 66 (#[agC x] ++ #[]) W fun e w' => e = .returned (.bool x.key) ∧ Below W.heap.size W w' := by
 show Calls Tryz.prog 66 #[.agg #[.string x.nm, .int .i64 x.k, .bool x.key, .bool x.nul]] W _
 go_enter Tryz.func66, Tryz.ntmps66
 go_wp2_with fail
 go_ret
 exact ⟨rfl, below_alloc1 _ _⟩
theorem enters48 : ∀ args w, (callFunc 133 args).run Tryz.prog w = .ok (.enter 133 args) w := enters_of Tryz.func133 (by kernel_rfl) rfl
theorem enters38 : ∀ args w, (callFunc 66 args).run Tryz.prog w = .ok (.enter 66 args) w := enters_of Tryz.func66 (by kernel_rfl) rfl
def isN (nm : ByteArray) (x : Col) : Bool := lst x.nm == lst nm
set_option maxHeartbeats 1000000 in
theorem placeOf_ (nm : ByteArray) (a : Option Addr) (c : Nat) (cs : List Col) (w : World) (h : ColsIn w a cs) (hl : cs.length ≤ 140737488355328) :
 Calls Tryz.prog 103 #[.slice a cs.length c, .string nm] w fun e w' => e = .returned (.int .i64 (idxP (isN nm) cs)) ∧ Below w.heap.size w w' := by
 have HB : Hid (Below w.heap.size w (w.alloc (.cells #[.string nm] 9))) := below_alloc1 _ _
 have HX := Lib.hid (indexC_ 133 #[.pointer (some ⟨w.heap.size, 0, none⟩)] (isN nm) a c cs (w.alloc (.cells #[.string nm] 9)) enters48 (fun W x hb => placeOf1_ x nm w.heap.size W ((hb.cell (by simp)).trans (by simp [go_sem]))) (h.on HB.out) hl)
 generalize idxP (isN nm) cs = R at *
 generalize cs.length = L at *
 clear h
 go_enter Tryz.func103, Tryz.ntmps103
 go_wp2_with (first | (go_at_call 105; refine HX.out.mono ?_; rintro e w1 ⟨rfl, hb1⟩) | fail)
 go_ret
 exact ⟨rfl, below_step HB.out hb1⟩
set_option maxHeartbeats 1000000 in
theorem containsKey_ (a : Option Addr) (c : Nat) (cs : List Col) (w : World) (h : ColsIn w a cs) (hl : cs.length ≤ 140737488355328) :
 Calls Tryz.prog 65 #[.slice a cs.length c, .func (.func 66) #[] #[]] w fun e w' => e = .returned (.bool (cs.any (·.key))) ∧ Below w.heap.size w w' := by
 have HX := Lib.hid (indexC_ 66 #[] (·.key) a c cs w enters38 (fun W x _ => ofKey_ x W) h hl)
 have hany := idxP_any (fun x : Col => x.key) cs
 generalize idxP (fun x : Col => x.key) cs = R at *
 generalize cs.any (fun x => x.key) = A at *
 generalize cs.length = L at *
 clear h
 rcases hany with ⟨rfl, i, rfl, _⟩ | ⟨rfl, rfl⟩
 · have h0 : (0 : Int) ≤ (i : Int) := by omega
   go_enter Tryz.func65, Tryz.ntmps65
   go_wp2_with (first | (go_at_call 105; refine HX.out.mono ?_; rintro e w1 ⟨rfl, hb1⟩) | fail)
   go_ret
   exact ⟨rfl, hb1⟩
 · go_enter Tryz.func65, Tryz.ntmps65
   go_wp2_with (first | (go_at_call 105; refine HX.out.mono ?_; rintro e w1 ⟨rfl, hb1⟩) | fail)
   go_ret
   exact ⟨rfl, hb1⟩
end Go.Proofs.YtalmanfjiblhcaaGreat.Tb
namespace Go.Proofs.YtalmanfjiblhcaaGreat.Tb
open Go.RowKit Go.Sort
def holdB (k : Int) : Bool := decide (k = 1 ∨ k = 2 ∨ k = 3)
set_option maxHeartbeats 1000000 in
theorem holdable_ (k : Int) (w : World) : Calls Tryz.prog 104 #[.int .i64 k] w fun e w' => e = .returned (.bool (holdB k)) ∧ w' = w := by
 by_cases h1 : k = 1
 · subst h1
   go_enter Tryz.func104, Tryz.ntmps104
   go_wp2_with fail
   go_ret
   exact ⟨rfl, rfl⟩
 by_cases h2 : k = 2
 · subst h2
   go_enter Tryz.func104, Tryz.ntmps104
   go_wp2_with fail
   go_ret
   exact ⟨rfl, rfl⟩
 have e1 : (k == 1) = false := by simpa using h1
 have e2 : (k == 2) = false := by simpa using h2
 have HE : Hid (holdB k = (k == 3)) := by
  show _ = _
  by_cases h3 : k = 3
  · subst h3; rfl
  · simp [holdB, h1, h2, h3]
 clear h1 h2
 go_enter Tryz.func104, Tryz.ntmps104
 go_wp2_with fail
 go_ret
 exact ⟨by rw [HE.out]; rfl, rfl⟩
theorem colE_name {x : Col} {ah : List Col} (h : nameL (lst x.nm) = false) : colE x ah = 30 := by rw [colE, if_pos h]
theorem colE_twice {x : Col} {ah : List Col} (h : nameL (lst x.nm) = true) (h1 : ah.any (isN x.nm) = true) : colE x ah = 9 := by rw [colE, if_neg (by simp [h]), if_pos (show ah.any (fun d => lst d.nm == lst x.nm) = true from h1)]
theorem colE_kind {x : Col} {ah : List Col} (h : nameL (lst x.nm) = true) (h1 : ah.any (isN x.nm) = false) (h2 : holdB x.k = false) : colE x ah = 7 := by
 rw [colE, if_neg (by simp [h]), if_neg (by rw [show ah.any (fun d => lst d.nm == lst x.nm) = false from h1]; decide), if_pos (of_decide_eq_false h2)]
theorem colE_end {x : Col} {ah : List Col} (h : nameL (lst x.nm) = true) (h1 : ah.any (isN x.nm) = false) (h2 : holdB x.k = true) : colE x ah = if (x.key && x.nul) = true then 33 else 0 := by
 rw [colE, if_neg (by simp [h]), if_neg (by rw [show ah.any (fun d => lst d.nm == lst x.nm) = false from h1]; decide), if_neg (by rw [Classical.not_not]; exact of_decide_eq_true h2)]
set_option maxHeartbeats 1000000 in
theorem checkColumn_ (nm : ByteArray) (k : Int) (y nl : Bool) (a : Option Addr) (c : Nat) (ah : List Col) (w : World) (h : ColsIn w a ah) (hl : ah.length ≤ 140737488355328) :
 Calls Tryz.prog 64 #[.agg #[.string nm, .int .i64 k, .bool y, .bool nl], .slice a ah.length c] w fun e w' => e = .returned (errV 77 (colE ⟨nm, k, y, nl⟩ ah)) ∧ Below w.heap.size w w' := by
 have hB : Below w.heap.size w (w.alloc (.cells #[.string nm, .int .i64 k, .bool y, .bool nl] 112)) := below_alloc1 _ _
 have HB := Lib.hid hB
 have hC := inC_new w ⟨nm, k, y, nl⟩ 112
 have HN : Hid (∀ W, Calls Tryz.prog 63 #[.string nm] W fun e w' => e = .returned (.bool (nameL (lst nm))) ∧ w' = W) := fun W => name_ nm W
 have HP := Lib.hid (placeOf_ nm a c ah (w.alloc (.cells #[.string nm, .int .i64 k, .bool y, .bool nl] 112)) (h.on hB) hl)
 have HH : Hid (∀ W, Calls Tryz.prog 104 #[.int .i64 k] W fun e w' => e = .returned (.bool (holdB k)) ∧ w' = W) := fun W => holdable_ k W
 have hany := idxP_any (isN nm) ah
 have E1 := Lib.hid (@colE_name ⟨nm, k, y, nl⟩ ah)
 have E2 := Lib.hid (@colE_twice ⟨nm, k, y, nl⟩ ah)
 have E3 := Lib.hid (@colE_kind ⟨nm, k, y, nl⟩ ah)
 have E4 := Lib.hid (@colE_end ⟨nm, k, y, nl⟩ ah)
 obtain ⟨E, hE⟩ : ∃ E, colE ⟨nm, k, y, nl⟩ ah = E := ⟨_, rfl⟩
 rw [hE] at E1 E2 E3 E4 ⊢
 generalize ah.any (isN nm) = A at *
 generalize idxP (isN nm) ah = I at *
 generalize ah.length = L at *
 obtain ⟨q0, q1, q2, q3⟩ := hC
 have HC1 := Lib.hid (inC_new w ⟨nm, k, y, nl⟩ 112)
 generalize hV : w.alloc (.cells #[.string nm, .int .i64 k, .bool y, .bool nl] 112) = V at *
 have HVe := Lib.hid hV
 clear h hB hE hl hV
 cases hn : nameL (lst nm) with
 | false =>
   rw [hn] at HN
   have HF : Hid (errV 77 E = .iface 77 (.int .i64 30)) := by show _ = _; rw [E1.out hn]; rfl
   clear E1 E2 E3 E4 hn
   go_enter Tryz.func64, Tryz.ntmps64
   go_wp2_with fail
   rw [HVe.out]
   go_wp2_with (first | (go_at_call 63; refine (HN.out _).mono ?_; rintro e w1 ⟨rfl, rfl⟩) | fail)
   go_ret
   exact ⟨by rw [HF.out]; rfl, HB.out⟩
 | true =>
   rw [hn] at HN
   rcases hany with ⟨rfl, i, rfl, _⟩ | ⟨rfl, rfl⟩
   · have HF : Hid (errV 77 E = .iface 77 (.int .i64 9)) := by show _ = _; rw [E2.out hn rfl]; rfl
     have h0 : (0 : Int) ≤ (i : Int) := by omega
     clear E1 E2 E3 E4 hn
     go_enter Tryz.func64, Tryz.ntmps64
     go_wp2_with fail
     rw [HVe.out]
     go_wp2_with (first | (go_at_call 63; refine (HN.out _).mono ?_; rintro e w1 ⟨rfl, rfl⟩) | fail)
     refine HP.out.mono ?_
     rintro e w2 ⟨rfl, hb2⟩
     have HB2 := Lib.hid (below_step HB.out hb2)
     clear hb2 HP q0 q1 q2 q3
     go_wp2_with fail
     go_ret
     exact ⟨by rw [HF.out]; rfl, HB2.out⟩
   · cases hk : holdB k with
     | false =>
       rw [hk] at HH
       have HF : Hid (errV 77 E = .iface 77 (.int .i64 7)) := by show _ = _; rw [E3.out hn rfl hk]; rfl
       clear E1 E2 E3 E4 hn hk
       go_enter Tryz.func64, Tryz.ntmps64
       go_wp2_with fail
       rw [HVe.out]
       go_wp2_with (first | (go_at_call 63; refine (HN.out _).mono ?_; rintro e w1 ⟨rfl, rfl⟩) | fail)
       refine HP.out.mono ?_
       rintro e w2 ⟨rfl, hb2⟩
       have HB2 := Lib.hid (below_step HB.out hb2)
       obtain ⟨r0, r1, r2, r3⟩ := HC1.out.on hb2
       clear hb2 HP q0 q1 q2 q3 HC1
       go_wp2_with (first | (go_at_call 104; refine (HH.out _).mono ?_; rintro e w3 ⟨rfl, rfl⟩) | fail)
       go_ret
       exact ⟨by rw [HF.out]; rfl, HB2.out⟩
     | true =>
       rw [hk] at HH
       have HF : Hid (errV 77 E = if (y && nl) = true then .iface 77 (.int .i64 33) else .nilIface) := by
        show _ = _
        rw [E4.out hn rfl hk]
        cases y <;> cases nl <;> rfl
       clear E1 E2 E3 E4 hn hk
       cases y <;> cases nl
       all_goals
        simp only [Bool.false_and, Bool.and_false, Bool.true_and, Bool.false_eq_true, if_true, if_false] at HF
        go_enter Tryz.func64, Tryz.ntmps64
        go_wp2_with fail
        rw [HVe.out]
        go_wp2_with (first | (go_at_call 63; refine (HN.out _).mono ?_; rintro e w1 ⟨rfl, rfl⟩) | fail)
        refine HP.out.mono ?_
        rintro e w2 ⟨rfl, hb2⟩
        have HB2 := Lib.hid (below_step HB.out hb2)
        obtain ⟨r0, r1, r2, r3⟩ := HC1.out.on hb2
        clear hb2 HP q0 q1 q2 q3 HC1
        go_wp2_with (first | (go_at_call 104; refine (HH.out _).mono ?_; rintro e w3 ⟨rfl, rfl⟩) | fail)
        go_ret
        exact ⟨by rw [HF.out]; rfl, HB2.out⟩
theorem chkT_name {t : Tab} (h : nameL (lst t.nm) = false) : chkT t = 30 := by rw [chkT, if_pos h]
theorem chkT_none {t : Tab} (h : nameL (lst t.nm) = true) (h1 : t.cs.length = 0) : chkT t = 1 := by rw [chkT, if_neg (by simp [h]), if_pos h1]
theorem chkT_long {t : Tab} (h : nameL (lst t.nm) = true) (h1 : 16 < t.cs.length) : chkT t = 2 := by rw [chkT, if_neg (by simp [h]), if_neg (by omega), if_pos h1]
theorem chkT_col {t : Tab} (h : nameL (lst t.nm) = true) (h1 : t.cs.length ≠ 0) (h2 : t.cs.length ≤ 16) {i : Nat} (hi : i < t.cs.length) (hv : ∀ j (h : j < t.cs.length), j < i → colE t.cs[j] (t.cs.take j) = 0) {E : Int} (hE : colE t.cs[i] (t.cs.take i) = E) (h0 : E ≠ 0) : chkT t = E := by
 have := colsE_bad hi hv hE h0
 rw [chkT, if_neg (by simp [h]), if_neg h1, if_neg (by omega), this, if_pos h0]
theorem chkT_end {t : Tab} (h : nameL (lst t.nm) = true) (h1 : t.cs.length ≠ 0) (h2 : t.cs.length ≤ 16) (hv : ∀ j (h : j < t.cs.length), colE t.cs[j] (t.cs.take j) = 0) : chkT t = if t.cs.any (·.key) = true then 0 else 8 := by
 have := colsE_ok hv
 rw [chkT, if_neg (by simp [h]), if_neg h1, if_neg (by omega), this, if_neg (by simp)]
set_option maxRecDepth 100000 in
set_option maxHeartbeats 1000000 in
theorem tcheck_ (nm : ByteArray) (at_ : Option Addr) (ct : Nat) (cs : List Col) (w : World) (hc : ColsIn w at_ cs) (hcap : cs.length ≤ ct) (hcl : cs.length ≤ 140737488355328) :
 Calls Tryz.prog 37 #[.agg #[.string nm, .slice at_ cs.length ct]] w fun e w' => e = .returned (errV 77 (chkT ⟨nm, cs⟩)) ∧ Below w.heap.size w w' := by
 obtain ⟨C, hC⟩ : ∃ C, cs.length = C := ⟨_, rfl⟩
 have HC := Lib.hid hC
 have HJ := Lib.hid hc
 have HN : Hid (∀ W, Calls Tryz.prog 63 #[.string nm] W fun e w' => e = .returned (.bool (nameL (lst nm))) ∧ w' = W) := fun W => name_ nm W
 have HK : Hid (∀ W, Below w.heap.size w W → Calls Tryz.prog 65 #[.slice at_ cs.length ct, .func (.func 66) #[] #[]] W fun e w' => e = .returned (.bool (cs.any (·.key))) ∧ Below W.heap.size W w') := fun W hb => containsKey_ at_ ct cs W (hc.on hb) (by omega)
 have HCC : Hid (∀ W i nm' k y nl, Below w.heap.size w W → i ≤ cs.length → Calls Tryz.prog 64 #[.agg #[.string nm', .int .i64 k, .bool y, .bool nl], .slice at_ i ct] W fun e w' => e = .returned (errV 77 (colE ⟨nm', k, y, nl⟩ (cs.take i))) ∧ Below W.heap.size W w') := fun W i nm' k y nl hb hi => by
  have := checkColumn_ nm' k y nl at_ ct (cs.take i) W ((hc.on hb).take i) (by rw [List.length_take]; omega)
  rwa [List.length_take, Nat.min_eq_left hi] at this
 obtain ⟨R, hR⟩ : ∃ R, R = errV 77 (chkT ⟨nm, cs⟩) := ⟨_, rfl⟩
 have HR : Hid (R = errV 77 (chkT ⟨nm, cs⟩)) := hR
 rw [← hR]
 rw [hC] at hcap HK HCC ⊢
 clear hc hC hR hcl
 obtain ⟨t0, t1⟩ := inT_new w nm at_ C ct 44
 have HT := Lib.hid (inT_new w nm at_ C ct 44)
 have HB0 : Hid (Below w.heap.size w (w.alloc (.cells #[.string nm, .slice at_ C ct] 44))) := below_alloc1 _ _
 generalize hV : w.alloc (.cells #[.string nm, .slice at_ C ct] 44) = V at *
 have HVe := Lib.hid hV
 clear hV
 cases hn : nameL (lst nm) with
 | false =>
   rw [hn] at HN
   have HF : Hid (R = .iface 77 (.int .i64 30)) := by show _ = _; rw [HR.out, chkT_name (t := ⟨nm, cs⟩) hn]; rfl
   clear HR hn
   go_enter Tryz.func37, Tryz.ntmps37
   go_wp2_with fail
   rw [HVe.out]
   go_wp2_with (first | (go_at_call 63; refine (HN.out _).mono ?_; rintro e w1 ⟨rfl, rfl⟩) | fail)
   go_ret
   exact ⟨by rw [HF.out]; rfl, HB0.out⟩
 | true =>
   rw [hn] at HN
   by_cases h0 : C = 0
   · have HF : Hid (R = .iface 77 (.int .i64 1)) := by show _ = _; rw [HR.out, chkT_none (t := ⟨nm, cs⟩) hn (by show cs.length = 0; rw [HC.out]; exact h0)]; rfl
     subst h0
     clear HR hn
     go_enter Tryz.func37, Tryz.ntmps37
     go_wp2_with fail
     rw [HVe.out]
     go_wp2_with (first | (go_at_call 63; refine (HN.out _).mono ?_; rintro e w1 ⟨rfl, rfl⟩) | fail)
     go_ret
     exact ⟨by rw [HF.out]; rfl, HB0.out⟩
   have g0 : ((C : Int) == 0) = false := by simpa using h0
   by_cases h16 : C ≤ 16
   · have g16 : ¬ ((16 : Int) < (C : Int)) := by omega
     have HFc : Hid (∀ i (hi : i < cs.length), (∀ j (h : j < cs.length), j < i → colE cs[j] (cs.take j) = 0) → ∀ E, colE cs[i] (cs.take i) = E → E ≠ 0 → R = .iface 77 (.int .i64 E)) := fun i hi hv E hE hne => by
      rw [HR.out, chkT_col (t := ⟨nm, cs⟩) hn (by show cs.length ≠ 0; rw [HC.out]; exact h0) (by show cs.length ≤ 16; rw [HC.out]; exact h16) hi hv hE hne, errV, if_neg hne]
     have HFe : Hid ((∀ j (h : j < cs.length), colE cs[j] (cs.take j) = 0) → R = if cs.any (·.key) = true then .nilIface else .iface 77 (.int .i64 8)) := fun hv => by
      rw [HR.out, chkT_end (t := ⟨nm, cs⟩) hn (by show cs.length ≠ 0; rw [HC.out]; exact h0) (by show cs.length ≤ 16; rw [HC.out]; exact h16) hv]
      show errV 77 (if cs.any (·.key) = true then 0 else 8) = _
      cases cs.any (·.key) <;> rfl
     clear HR hn h0 h16
     go_enter Tryz.func37, Tryz.ntmps37
     go_wp2_with fail
     rw [HVe.out]
     go_wp2_with (first | (go_at_call 63; refine (HN.out _).mono ?_; rintro e w1 ⟨rfl, rfl⟩) | fail)
     clear t0 t1 g16 g0 HN
     go_loopw [27] (fun iv wr => ∃ i : Nat, i ≤ C ∧ iv = .int .i64 i ∧ Hid (∀ j (h : j < cs.length), j < i → colE cs[j] (cs.take j) = 0) ∧ Hid (Below w1.heap.size w1 wr)) (fun iv _ => C - (intOf iv).toNat)
     case atStart => exact ⟨0, Nat.zero_le _, rfl, fun j _ hj => by omega, Below.refl _ _⟩
     case round =>
      obtain ⟨i, hi, rfl, HV, HBw⟩ := hrel
      by_cases hlt : i < C
      · have hlt2 : (i : Int) < (C : Int) := by omega
        have hi1 : i < cs.length := by rw [HC.out]; exact hlt
        have HB1 := Lib.hid (below_step HB0.out HBw.out)
        obtain ⟨b1, o1, rfl, cn, kc, ky, nl, hci, q0, q1, q2, q3⟩ := ColsIn.get (HJ.out.on HB1.out) i hi1
        have HB2 := Lib.hid (below_step HB1.out (below_alloc1 wr (.cells #[.string cn, .int .i64 kc, .bool ky, .bool nl] 112)))
        have HF : Hid (∀ d os, Calls Tryz.prog 64 #[.agg #[.string cn, .int .i64 kc, .bool ky, .bool nl], .slice (some ⟨b1, o1, none⟩) i ct] (grow (redrawn (wr.alloc (.cells #[.string cn, .int .i64 kc, .bool ky, .bool nl] 112)) d) os) fun e w' => e = .returned (errV 77 (colE ⟨cn, kc, ky, nl⟩ (cs.take i))) ∧ Below (grow (redrawn (wr.alloc (.cells #[.string cn, .int .i64 kc, .bool ky, .bool nl] 112)) d) os).heap.size (grow (redrawn (wr.alloc (.cells #[.string cn, .int .i64 kc, .bool ky, .bool nl] 112)) d) os) w') := fun d os => HCC.out _ i cn kc ky nl (below_step HB2.out (below_regrown _ d os)) (Nat.le_of_lt hlt)
        obtain ⟨t0, t1⟩ := HT.out.on (below_step HBw.out (below_alloc1 wr (.cells #[.string cn, .int .i64 kc, .bool ky, .bool nl] 112)))
        obtain ⟨s0, s1⟩ := HT.out.on HBw.out
        obtain ⟨r0, r1, r2, r3⟩ := inC_new wr ⟨cn, kc, ky, nl⟩ 112
        simp only at r0 r1 r2 r3
        have HK2 := Lib.hid hci
        have HBa := Lib.hid (below_step HBw.out (below_alloc1 wr (.cells #[.string cn, .int .i64 kc, .bool ky, .bool nl] 112)))
        clear hci
        go_wp2_with fail
        generalize wr.alloc (.cells #[.string cn, .int .i64 kc, .bool ky, .bool nl] 112) = V1 at *
        have k0 := cell_regrown t0
        have k1 := cell_regrown t1
        have l0 := cell_regrown r0
        have l1 := cell_regrown r1
        have l2 := cell_regrown r2
        have l3 := cell_regrown r3
        have hd0 : decide (0 ≤ (i : Int)) = true := by simp
        have hd1 : decide ((i : Int) ≤ (ct : Int)) = true := by simp; omega
        clear r0 r1 r2 r3 q0 q1 q2 q3 t0 t1
        by_cases h0 : colE ⟨cn, kc, ky, nl⟩ (cs.take i) = 0
        · have h0' : errV 77 (colE ⟨cn, kc, ky, nl⟩ (cs.take i)) = .nilIface := by rw [errV, if_pos h0]
          rw [h0'] at HF
          have HV2 : Hid (∀ j (h : j < cs.length), j < i + 1 → colE cs[j] (cs.take j) = 0) := fun j hj hji => by
           rcases Nat.lt_or_ge j i with hh | hh
           · exact HV.out j hj hh
           · obtain rfl : j = i := by omega
             rw [HK2.out]; exact h0
          clear h0 h0' HK2 HV
          refine wp_region_quiet_below (by kernel_rfl) (by kernel_rfl) ?_
          repeat (go_big_quiet_step (first | (go_at_call 64; exact Calls.regrown_of (HF.out _ _))))
          refine wpQuiet_nil ?_
          intro _ hw'
          obtain ⟨⟨dq, osq⟩, hw''⟩ := hw'
          subst hw''
          have HB3 := Lib.hid (below_step HBa.out (below_regrown V1 dq osq))
          generalize grow (redrawn V1 dq) osq = W2 at *
          clear k0 k1 l0 l1 l2 l3 HF HB1 HB2 HBw HBa
          go_wp2_with fail
          go_roundw
          case rel => exact ⟨i + 1, by omega, by go_num, HV2, HB3⟩
          case measure => simp [intOf]; omega
        · obtain ⟨E, hE⟩ : ∃ E, colE ⟨cn, kc, ky, nl⟩ (cs.take i) = E := ⟨_, rfl⟩
          have h0' : errV 77 (colE ⟨cn, kc, ky, nl⟩ (cs.take i)) = .iface 77 (.int .i64 E) := by rw [errV, if_neg h0, hE]
          have HR2 := Lib.hid (HFc.out i hi1 HV.out E (by rw [HK2.out]; exact hE) (by rw [← hE]; exact h0))
          rw [h0'] at HF
          clear h0 h0' HK2 HV hE
          refine wp_region_quiet_below (by kernel_rfl) (by kernel_rfl) ?_
          repeat (go_big_quiet_step (first | (go_at_call 64; exact Calls.regrown_of (HF.out _ _))))
          refine wpQuiet_nil ?_
          intro _ hw'
          obtain ⟨⟨dq, osq⟩, hw''⟩ := hw'
          subst hw''
          have HB3 := Lib.hid (below_step HBa.out (below_regrown V1 dq osq))
          generalize grow (redrawn V1 dq) osq = W2 at *
          clear k0 k1 l0 l1 l2 l3 HF HB1 HB2 HBw HBa
          go_wp2_with fail
          go_ret
          exact ⟨by rw [HR2.out]; rfl, below_step HB0.out HB3.out⟩
      · obtain rfl : i = C := by omega
        have HF := Lib.hid (HFe.out (fun j hj => HV.out j hj (by rw [← HC.out]; exact hj)))
        have HB1 := Lib.hid (below_step HB0.out HBw.out)
        have HK2 := Lib.hid (HK.out wr HB1.out)
        obtain ⟨s0, s1⟩ := HT.out.on HBw.out
        generalize cs.any (·.key) = A at *
        clear HV
        cases A
        all_goals
         simp only [Bool.false_eq_true, if_true, if_false] at HF
         go_wp2_with (first | (go_at_call 65; refine HK2.out.mono ?_; rintro e w2 ⟨rfl, hb2⟩) | fail)
         go_ret
         exact ⟨by rw [HF.out]; rfl, below_step HB1.out hb2⟩
   · have HF : Hid (R = .iface 77 (.int .i64 2)) := by show _ = _; rw [HR.out, chkT_long (t := ⟨nm, cs⟩) hn (by show 16 < cs.length; rw [HC.out]; omega)]; rfl
     have g16 : ((16 : Int) < (C : Int)) := by omega
     clear HR hn
     go_enter Tryz.func37, Tryz.ntmps37
     go_wp2_with fail
     rw [HVe.out]
     go_wp2_with (first | (go_at_call 63; refine (HN.out _).mono ?_; rintro e w1 ⟨rfl, rfl⟩) | fail)
     go_ret
     exact ⟨by rw [HF.out]; rfl, HB0.out⟩
end Go.Proofs.YtalmanfjiblhcaaGreat.Tb
