/- The walks of the law's 'values' and 'twin'; compare: rows that a label sees, by their keys, then by their labels' places; What Go's library does where places are put in order: the library's own contract, laid at this program's numbers; Rows that a label sees put in order: slices.SortFunc; slices.SortFunc, where there is nothing to sort. -/
import Derived.Test.YtalmanfjiblhcaaGreatJ24
import Derived.Test.YtalmanfjiblhcaaGreatJ10
import Derived.Test.YtalmanfjiblhcaaGreatJ6
import Derived.Sort.Grow
import Derived.Deep.RegionHeld
import Derived.Deep.RegionHeld3
import Derived.Deep.CutRange
import Derived.Shelf.SlSortCmp.WholeK
import Derived.Ground.SlsfProg
import Derived.Test.YtalmanfjiblhcaaGreatProg
namespace Go.Proofs.YtalmanfjiblhcaaGreat.Rw
open Go.RowKit Go.Sort
set_option maxRecDepth 100000 in
set_option maxHeartbeats 1000000 in
theorem valuesQ_ (a a' : Option Addr) (c c' : Nat) (xs ys : List Val) (w : World) (h : ValsIn w a xs) (h' : ValsIn w a' ys) (hlen : xs.length ≤ 1048576) (hlen' : ys.length ≤ 1048576) {r : Bool} (hr : r = true ↔ xs = ys) :
 Calls Tryz.prog 15 #[.slice a xs.length c, .slice a' ys.length c'] w fun e w' => e = .returned (.bool r) ∧ ∃ m, w' = w.drewN m := by
 obtain ⟨L, hL⟩ : ∃ L, xs.length = L := ⟨_, rfl⟩
 obtain ⟨M, hM⟩ : ∃ M, ys.length = M := ⟨_, rfl⟩
 have HRb := Lib.hid hr
 clear hr
 have HL := Lib.hid hL
 have HM := Lib.hid hM
 have HI := Lib.hid h
 have HI' := Lib.hid h'
 rw [hL] at hlen
 rw [hM] at hlen'
 rw [hL, hM]
 have hGD := guardV
 clear h h' hL hM
 by_cases hlm : L = M
 · subst hlm
   have hne : ((L : Int) != L) = false := by simp
   go_enter Tryz.func15, Tryz.ntmps15
   go_wp2_with fail
   go_loopw [5] (fun iv wr => ∃ i : Nat, i ≤ L ∧ iv = .int .i64 i ∧ Hid (xs.take i = ys.take i) ∧ Hid (∃ m, wr = w.drewN m)) (fun iv _ => L - (intOf iv).toNat)
   case atStart => exact ⟨0, Nat.zero_le _, rfl, rfl, 0, rfl⟩
   case round =>
    obtain ⟨i, hi, rfl, HT, HDr⟩ := hrel
    have HBw : Hid (Below w.heap.size w wr) := by obtain ⟨m, e⟩ := HDr.out; show Below _ _ _; rw [e]; exact below_drewN (Below.refl _ _) m
    by_cases hlt : i < L
    · have hlt2 : (i : Int) < (L : Int) := by omega
      have hi2 : i < xs.length := by rw [HL.out]; exact hlt
      have hi3 : i < ys.length := by rw [HM.out]; exact hlt
      obtain ⟨b, o, rfl, k, n, t, bb, hvi, p0, p1, p2, p3⟩ := ValsIn.get (HI.out.on HBw.out) i hi2
      obtain ⟨b', o', rfl, k', n', t', bb', hvi', r0, r1, r2, r3⟩ := ValsIn.get (HI'.out.on HBw.out) i hi3
      cases hs : sameV k n t bb k' n' t' bb'
      · have hEQ : ∀ W, (Op.equalIn 10000 73 (.agg #[.int .i64 k, .int .i64 n, .string t, .bool bb]) (.agg #[.int .i64 k', .int .i64 n', .string t', .bool bb'])).run Tryz.prog W = .ok false W := fun W => by rw [eqIn_, hs]
        have HX : Hid (¬ xs = ys) := fun e => by
         have : xs[i]'hi2 = ys[i]'hi3 := by subst e; rfl
         rw [hvi, hvi'] at this
         rw [sameV_iff.2 this] at hs; cases hs
        clear hs hvi hvi'
        go_wp2_with fail
        go_quiet (fail)
        have HB1 : Hid (∃ m, wr.drewN nq = w.drewN m) := by obtain ⟨m, e⟩ := HDr.out; exact ⟨m + nq, by rw [e, World.drewN_drewN]⟩
        go_wp2_with fail
        go_ret
        obtain rfl : r = false := Bool.eq_false_iff.2 fun h => HX.out (HRb.out.1 h)
        exact ⟨rfl, HB1.out⟩
      · have hEQ : ∀ W, (Op.equalIn 10000 73 (.agg #[.int .i64 k, .int .i64 n, .string t, .bool bb]) (.agg #[.int .i64 k', .int .i64 n', .string t', .bool bb'])).run Tryz.prog W = .ok true W := fun W => by rw [eqIn_, hs]
        have HT2 : Hid (xs.take (i + 1) = ys.take (i + 1)) := by
         show _ = _
         rw [List.take_add_one, List.take_add_one, HT.out, List.getElem?_eq_getElem hi2, List.getElem?_eq_getElem hi3, hvi, hvi', sameV_iff.1 hs]
        clear hs hvi hvi' HT
        go_wp2_with fail
        go_quiet (fail)
        have HB1 : Hid (∃ m, wr.drewN nq = w.drewN m) := by obtain ⟨m, e⟩ := HDr.out; exact ⟨m + nq, by rw [e, World.drewN_drewN]⟩
        go_wp2_with fail
        go_roundw
        case rel => exact ⟨i + 1, by omega, by go_num, HT2, HB1⟩
        case measure => simp [intOf]; omega
    · obtain rfl : i = L := by omega
      have HX : Hid (xs = ys) := by
       have h1 : xs.take i = xs := List.take_of_length_le (by rw [HL.out]; exact Nat.le_refl _)
       have h2 : ys.take i = ys := List.take_of_length_le (by rw [HM.out]; exact Nat.le_refl _)
       show _ = _
       rw [← h1, HT.out, h2]
      clear HT
      go_wp2_with fail
      go_ret
      obtain rfl : r = true := HRb.out.2 HX.out
      exact ⟨rfl, HDr.out⟩
 · have hne : ((L : Int) != M) = true := by simp; omega
   have hne2 : ((L : Int) == M) = false := by simp; omega
   have HX : Hid (¬ xs = ys) := fun e => hlm (by rw [← HL.out, ← HM.out, e])
   go_enter Tryz.func15, Tryz.ntmps15
   go_wp2_with fail
   go_ret
   obtain rfl : r = false := Bool.eq_false_iff.2 fun h => HX.out (HRb.out.1 h)
   exact ⟨rfl, 0, rfl⟩
end Go.Proofs.YtalmanfjiblhcaaGreat.Rw
namespace Go.Proofs.YtalmanfjiblhcaaGreat
open Go.RowKit Go.Sort
theorem ret_int {k : IntKind} {a b : Int} (h : a = b) : Ending.returned (.int k a) = .returned (.int k b) := by rw [h]
theorem nanInt_ (x : Int) (w : World) : Calls Tryz.prog 95 #[.int .i64 x] w fun e w' => e = .returned (.bool false) ∧ w' = w := by
 go_enter Tryz.func95, Tryz.ntmps95
 go_wp2_with fail
 go_ret
 exact ⟨rfl, rfl⟩
theorem cmpInt_ (x y : Int) (w : World) : Calls Tryz.prog 57 #[.int .i64 x, .int .i64 y] w fun e w' => e = .returned (.int .i64 (if x < y then -1 else if y < x then 1 else 0)) ∧ w' = w := by
 rcases (by omega : x < y ∨ x = y ∨ y < x) with h | h | h
 · rw [if_pos h]
   go_enter Tryz.func57, Tryz.ntmps57
   go_wp2_with (go_at_call 95; refine (nanInt_ _ _).mono ?_; rintro e w' ⟨rfl, rfl⟩)
   go_ret
   exact ⟨rfl, rfl⟩
 · subst h
   rw [if_neg (by omega), if_neg (by omega)]
   go_enter Tryz.func57, Tryz.ntmps57
   go_wp2_with (go_at_call 95; refine (nanInt_ _ _).mono ?_; rintro e w' ⟨rfl, rfl⟩)
   go_ret
   exact ⟨rfl, rfl⟩
 · rw [if_neg (by omega), if_pos h]
   have h3 : ¬ x < y := by omega
   go_enter Tryz.func57, Tryz.ntmps57
   go_wp2_with (go_at_call 95; refine (nanInt_ _ _).mono ?_; rintro e w' ⟨rfl, rfl⟩)
   go_ret
   exact ⟨rfl, rfl⟩
def cmpS3 (a b : ByteArray) : Int := if ltb a b then -1 else if ltb b a then 1 else 0
theorem cb_less : ∀ l m : List UInt8, Lib.compareBytes l m = if Op.bytesLess l m then -1 else if Op.bytesLess m l then 1 else 0
 | [], [] => by simp [Lib.compareBytes, Op.bytesLess]
 | [], _ :: _ => by simp [Lib.compareBytes, Op.bytesLess]
 | _ :: _, [] => by simp [Lib.compareBytes, Op.bytesLess]
 | a :: xs, b :: ys => by
   have ih := cb_less xs ys
   simp only [Lib.compareBytes, Op.bytesLess]
   rw [ih]
   by_cases h1 : a < b
   · have hn : (a == b) = false := by
      rw [beq_eq_false_iff_ne]; intro e; subst e; exact absurd h1 (UInt8.lt_irrefl _)
     simp [h1, hn]
   · by_cases h2 : b < a
     · have hn : (a == b) = false := by
        rw [beq_eq_false_iff_ne]; intro e; subst e; exact absurd h2 (UInt8.lt_irrefl _)
       simp [h1, h2, hn]
     · have e : a = b := by
        rw [UInt8.lt_iff_toNat_lt] at h1 h2
        exact UInt8.toNat_inj.1 (by omega)
       subst e
       simp [UInt8.lt_irrefl]
theorem cmpRun_ (a b : ByteArray) (w : World) : Calls Tryz.prog 94 #[.string a, .string b] w fun e w' => e = .returned (.int .i64 (cmpS3 a b)) ∧ w' = w := by
 have hx := @run_callFunc_extern Tryz.prog 128 _ Extern.BytealgCompare.compare Tryz.func128 (by kernel_rfl) (by kernel_rfl) (by kernel_rfl) (by kernel_rfl)
 have hr := Lib.run_compareString (P := Tryz.prog) a b w
 have e : Lib.compareBytes a.data.toList b.data.toList = cmpS3 a b := by
  rw [cb_less]
  unfold cmpS3 ltb
  rw [Lib.toList_data, Lib.toList_data]
 rw [e] at hr
 generalize cmpS3 a b = r at *
 clear e
 go_enter Tryz.func94, Tryz.ntmps94
 go_wp2_with fail
 go_ret
 exact ⟨rfl, rfl⟩
theorem strCmp_ (a b : ByteArray) (w : World) : Calls Tryz.prog 56 #[.string a, .string b] w fun e w' => e = .returned (.int .i64 (cmpS3 a b)) ∧ w' = w := by
 have H := Lib.hid (cmpRun_ a b w)
 generalize cmpS3 a b = r at *
 go_enter Tryz.func56, Tryz.ntmps56
 go_wp2_with (first | (go_at_call 94; refine H.out.mono ?_; rintro e w' ⟨rfl, rfl⟩) | fail)
 go_ret
 exact ⟨rfl, rfl⟩
set_option maxHeartbeats 1000000 in
theorem or2_ (B : Nat) (x y r : Int) (w : World) (h0 : w.cell? ⟨B, 0, none⟩ = some (.int .i64 x)) (h1 : w.cell? ⟨B, 1, none⟩ = some (.int .i64 y)) (HR : Hid (r = if x = 0 then y else x)) :
 Calls Tryz.prog 55 #[.slice (some ⟨B, 0, none⟩) 2 2] w fun e w' => e = .returned (.int .i64 r) ∧ w' = w := by
 go_enter Tryz.func55, Tryz.ntmps55
 go_wp2
 go_loopw [8] (fun iv wy => ∃ i : Nat, i ≤ 2 ∧ iv = .int .i64 i ∧ wy = w ∧ Hid ((0 < i → x = 0) ∧ (1 < i → y = 0))) (fun iv _ => 2 - (intOf iv).toNat)
 case atStart => exact ⟨0, by omega, rfl, rfl, ⟨fun h => by omega, fun h => by omega⟩⟩
 case round =>
  obtain ⟨i, hi, rfl, rfl, H⟩ := hrel
  rcases (by omega : i = 0 ∨ i = 1 ∨ i = 2) with rfl | rfl | rfl
  · by_cases hx : x = 0
    · have HX := Lib.hid hx
      have hx' : (x != 0) = false := by simp [hx]
      clear hx
      have HREL : Hid (Hid ((0 < 1 → x = 0) ∧ (1 < 1 → y = 0))) := ⟨fun _ => HX.out, fun h => by omega⟩
      go_wp2_with fail
      go_roundw
      case rel => exact ⟨1, by omega, by go_num, trivial, HREL.out⟩
      case measure => simp [intOf]
    · have hx' : (x != 0) = true := by simp [hx]
      have HN : Hid (r = x) := by
       show r = x
       rw [HR.out, if_neg hx]
      clear hx
      go_wp2_with fail
      go_ret
      exact ⟨ret_int HN.out.symm, rfl⟩
  · by_cases hx : y = 0
    · have HX := Lib.hid hx
      have hx' : (y != 0) = false := by simp [hx]
      clear hx
      have HREL : Hid (Hid ((0 < 2 → x = 0) ∧ (1 < 2 → y = 0))) := ⟨fun _ => H.out.1 (by omega), fun _ => HX.out⟩
      go_wp2_with fail
      go_roundw
      case rel => exact ⟨2, by omega, by go_num, trivial, HREL.out⟩
      case measure => simp [intOf]
    · have hx' : (y != 0) = true := by simp [hx]
      have HN : Hid (r = y) := by
       show r = y
       rw [HR.out, if_pos (H.out.1 (by omega))]
      clear hx
      go_wp2_with fail
      go_ret
      exact ⟨ret_int HN.out.symm, rfl⟩
  · have HN : Hid (r = 0) := by
     show r = 0
     rw [HR.out, if_pos (H.out.1 (by omega)), H.out.2 (by omega)]
    go_wp2_with fail
    go_ret
    exact ⟨ret_int HN.out.symm, rfl⟩
structure SnV where
 k : ByteArray
 p : Nat
 r : Vl
def cmpE (x y : SnV) : Int := if cmpS3 x.k y.k = 0 then (if (x.p : Int) < y.p then -1 else if (y.p : Int) < x.p then 1 else 0) else cmpS3 x.k y.k
def snC (x : SnV) : List Value := [.string x.k, .int .i64 x.p, .slice x.r.a x.r.n x.r.c]
set_option maxHeartbeats 1000000 in
set_option maxRecDepth 100000 in
theorem compare_ (x y : SnV) (w : World) :
 Calls Tryz.prog 29 #[.agg (snC x).toArray, .agg (snC y).toArray] w fun e w' => e = .returned (.int .i64 (cmpE x y)) ∧ ∃ q os', w' = grow (w.drewN q) os' := by
 obtain ⟨xk, xp, xa, xn, xc⟩ := x
 obtain ⟨yk, yp, ya, yn, yc⟩ := y
 unfold snC cmpE
 simp only
 obtain ⟨A, hA⟩ : ∃ A, A = Obj.cells #[.string xk, .int .i64 xp, .slice xa xn xc] 105 := ⟨_, rfl⟩
 obtain ⟨B, hB⟩ : ∃ B, B = Obj.cells #[.string yk, .int .i64 yp, .slice ya yn yc] 105 := ⟨_, rfl⟩
 have G : Hid (∀ o : Obj, ∃ q os', (((w.alloc A).alloc B).alloc o).drew = grow (w.drewN q) os') := fun o => ⟨1, #[A, B, o], by
  rw [alloc_eq_grow, alloc_eq_grow, alloc_eq_grow, grow_grow, grow_grow]
  rfl⟩
 obtain ⟨W1, hW1⟩ : ∃ W1, (w.alloc A).alloc B = W1 := ⟨_, rfl⟩
 have hA1 : W1.heap[w.heap.size]? = some A := by
  rw [← hW1]
  exact ((below_alloc (w.alloc A) B).block _ (blk_lt (new_blk w A))).trans (new_blk w A)
 have hB1 : W1.heap[w.heap.size + 1]? = some B := by
  have h := new_blk (w.alloc A) B
  rw [hW1, show (w.alloc A).heap.size = w.heap.size + 1 by simp [go_sem]] at h
  exact h
 have hs1 : W1.heap.size = w.heap.size + 2 := by rw [← hW1]; simp [go_sem]
 rw [hA] at hA1
 rw [hB] at hB1
 have a0 : W1.cell? ⟨w.heap.size, 0, none⟩ = some (.string xk) := cell_of hA1 rfl
 have a1 : W1.cell? ⟨w.heap.size, 1, none⟩ = some (.int .i64 xp) := cell_of hA1 rfl
 have b0 : W1.cell? ⟨w.heap.size + 1, 0, none⟩ = some (.string yk) := cell_of hB1 rfl
 have b1 : W1.cell? ⟨w.heap.size + 1, 1, none⟩ = some (.int .i64 yp) := cell_of hB1 rfl
 rw [hW1] at G
 obtain ⟨r, hr⟩ : ∃ r : Int, r = if cmpS3 xk yk = 0 then (if (xp : Int) < yp then -1 else if (yp : Int) < xp then 1 else 0) else cmpS3 xk yk := ⟨_, rfl⟩
 rw [← hr]
 have HR := Lib.hid hr
 clear hr hA1 hB1
 rw [hA, hB] at hW1
 clear hA hB
 have H1 := Lib.hid (cmpInt_ xp yp)
 have H2 := Lib.hid (strCmp_ xk yk)
 generalize (if (xp : Int) < yp then -1 else if (yp : Int) < xp then 1 else 0 : Int) = ri at *
 generalize cmpS3 xk yk = rs at *
 have HC0 : Hid ((W1.alloc (.cells #[.int .i64 rs, .int .i64 ri] 3)).drew.cell? ⟨w.heap.size + 2, 0, none⟩ = some (.int .i64 rs)) := by
  have h := new_blk W1 (.cells #[.int .i64 rs, .int .i64 ri] 3)
  rw [hs1] at h
  exact cell_of (w := (W1.alloc (.cells #[.int .i64 rs, .int .i64 ri] 3)).drew) h rfl
 have HC1 : Hid ((W1.alloc (.cells #[.int .i64 rs, .int .i64 ri] 3)).drew.cell? ⟨w.heap.size + 2, 1, none⟩ = some (.int .i64 ri)) := by
  have h := new_blk W1 (.cells #[.int .i64 rs, .int .i64 ri] 3)
  rw [hs1] at h
  exact cell_of (w := (W1.alloc (.cells #[.int .i64 rs, .int .i64 ri] 3)).drew) h rfl
 go_enter Tryz.func29, Tryz.ntmps29
 go_upto_region 1 with fail
 try rw [hW1]
 clear hW1
 go_region_held (fun w' => w'.cell? ⟨w.heap.size, 0, none⟩ = some (.string xk) ∧ w'.cell? ⟨w.heap.size, 1, none⟩ = some (.int .i64 xp) ∧ w'.cell? ⟨w.heap.size + 1, 0, none⟩ = some (.string yk) ∧ w'.cell? ⟨w.heap.size + 1, 1, none⟩ = some (.int .i64 yp)) (go_keep)
  (first | (go_at_call 57; refine (H1.out _).mono ?_; rintro e w' ⟨rfl, rfl⟩) | (go_at_call 56; refine (H2.out _).mono ?_; rintro e w' ⟨rfl, rfl⟩) | (go_at_call 55; go_loud (refine (or2_ (w.heap.size + 2) rs ri r _ HC0.out HC1.out HR).mono ?_); rintro e w' ⟨rfl, rfl⟩))
 go_wp2_with fail
 go_ret
 exact ⟨rfl, G.out _⟩
end Go.Proofs.YtalmanfjiblhcaaGreat
namespace Go.Proofs
open Go.Shelf
def Tryz.sortP_ren : Go.Shelf.Ren := ⟨fun | 6 => 28 | 15 => 54 | 14 => 53 | 28 => 92 | 29 => 93 | 20 => 84 | 21 => 85 | 22 => 86 | 23 => 87 | 24 => 88 | 25 => 89 | 26 => 90 | 27 => 91 | 46 => 123 | 47 => 124 | 48 => 125 | 49 => 126 | 50 => 127 | 57 => 153 | n => n, fun | 22 => 95 | 24 => 105 | 25 => 107 | 3 => 3 | 39 => 49 | 0 => 0 | 53 => 68 | 55 => 151 | 4 => 4 | 46 => 189 | 45 => 188 | 50 => 119 | 5 => 5 | 9 => 9 | 66 => 224 | 70 => 228 | 76 => 250 | 77 => 251 | n => n, fun | n => n⟩
theorem Tryz.sortP : Go.Proofs.SlLaysF0.n6 Tryz.prog Tryz.sortP_ren := {
 mixed := by kernel_rfl
 f6 := ⟨Tryz.f28.name, by decide, Tryz.func28.trans (congrArg some (by kernel_rfl))⟩
 f14 := ⟨Tryz.f53.name, by decide, Tryz.func53.trans (congrArg some (by kernel_rfl))⟩
 f15 := Tryz.func54.trans (congrArg some (by kernel_rfl))
 f20 := ⟨Tryz.f84.name, by decide, Tryz.func84.trans (congrArg some (by kernel_rfl))⟩
 f21 := ⟨Tryz.f85.name, by decide, Tryz.func85.trans (congrArg some (by kernel_rfl))⟩
 f22 := ⟨Tryz.f86.name, by decide, Tryz.func86.trans (congrArg some (by kernel_rfl))⟩
 f23 := ⟨Tryz.f87.name, by decide, Tryz.func87.trans (congrArg some (by kernel_rfl))⟩
 f24 := ⟨Tryz.f88.name, by decide, Tryz.func88.trans (congrArg some (by kernel_rfl))⟩
 f25 := ⟨Tryz.f89.name, by decide, Tryz.func89.trans (congrArg some (by kernel_rfl))⟩
 f26 := ⟨Tryz.f90.name, by decide, Tryz.func90.trans (congrArg some (by kernel_rfl))⟩
 f27 := ⟨Tryz.f91.name, by decide, Tryz.func91.trans (congrArg some (by kernel_rfl))⟩
 f28 := Tryz.func92.trans (congrArg some (by kernel_rfl))
 f29 := Tryz.func93.trans (congrArg some (by kernel_rfl))
 f46 := ⟨Tryz.f123.name, by decide, Tryz.func123.trans (congrArg some (by kernel_rfl))⟩
 f47 := Tryz.func124.trans (congrArg some (by kernel_rfl))
 f48 := Tryz.func125.trans (congrArg some (by kernel_rfl))
 f49 := ⟨Tryz.f126.name, by decide, Tryz.func126.trans (congrArg some (by kernel_rfl))⟩
 f50 := ⟨Tryz.f127.name, by decide, Tryz.func127.trans (congrArg some (by kernel_rfl))⟩
 f57 := ⟨Tryz.f153.name, by decide, Tryz.func153.trans (congrArg some (by kernel_rfl))⟩
 t0 := Tryz.underlying0
 a0 := Tryz.isAgg0
 z0 := Tryz.sizeOf0
 v0 := Tryz.zeroValue0
 t3 := Tryz.underlying3
 a3 := Tryz.isAgg3
 z3 := Tryz.sizeOf3
 v3 := Tryz.zeroValue3
 t4 := Tryz.underlying4
 a4 := Tryz.isAgg4
 z4 := Tryz.sizeOf4
 v4 := Tryz.zeroValue4
 t5 := Tryz.underlying5
 a5 := Tryz.isAgg5
 z5 := Tryz.sizeOf5
 v5 := Tryz.zeroValue5
 t9 := Tryz.underlying9
 a9 := Tryz.isAgg9
 z9 := Tryz.sizeOf9
 v9 := Tryz.zeroValue9
 t22 := Tryz.underlying95
 a22 := Tryz.isAgg95
 z22 := Tryz.sizeOf95
 v22 := Tryz.zeroValue95
 t25 := Tryz.underlying107
 a25 := Tryz.isAgg107
 z25 := Tryz.sizeOf107
 v25 := Tryz.zeroValue107
 t39 := Tryz.underlying49
 a39 := Tryz.isAgg49
 z39 := Tryz.sizeOf49
 v39 := Tryz.zeroValue49
 t45 := Tryz.underlying188
 a45 := Tryz.isAgg188
 z45 := Tryz.sizeOf188
 v45 := Tryz.zeroValue188
 t46 := Tryz.underlying189
 a46 := Tryz.isAgg189
 z46 := Tryz.sizeOf189
 v46 := Tryz.zeroValue189
 t50 := Tryz.underlying119
 a50 := Tryz.isAgg119
 z50 := Tryz.sizeOf119
 v50 := Tryz.zeroValue119
 t53 := Tryz.underlying68
 a53 := Tryz.isAgg68
 z53 := Tryz.sizeOf68
 v53 := Tryz.zeroValue68
 t55 := Tryz.underlying151
 a55 := Tryz.isAgg151
 z55 := Tryz.sizeOf151
 v55 := Tryz.zeroValue151
 t66 := Tryz.underlying224
 a66 := Tryz.isAgg224
 z66 := Tryz.sizeOf224
 v66 := Tryz.zeroValue224
 t70 := Tryz.underlying228
 a70 := Tryz.isAgg228
 z70 := Tryz.sizeOf228
 v70 := Tryz.zeroValue228
 t76 := Tryz.underlying250
 a76 := Tryz.isAgg250
 z76 := Tryz.sizeOf250
 v76 := Tryz.zeroValue250
 t77 := Tryz.underlying251
 a77 := Tryz.isAgg251
 z77 := Tryz.sizeOf251
 v77 := Tryz.zeroValue251 }
end Go.Proofs
namespace Go.Proofs.YtalmanfjiblhcaaGreat
open Go.RowKit Go.Sort Go.Shelf
def ltV (x y : SnV) : Prop := ltb x.k y.k = true ∨ (x.k = y.k ∧ x.p < y.p)
theorem ltV_irrefl (x : SnV) : ¬ ltV x x := by
 rintro (h | ⟨_, h⟩)
 · rw [ltb_irrefl] at h; cases h
 · omega
theorem ltV_trans {x y z : SnV} (h : ltV x y) (k : ltV y z) : ltV x z := by
 rcases h with h | ⟨h, h'⟩ <;> rcases k with k | ⟨k, k'⟩
 · exact .inl (ltb_trans h k)
 · exact .inl (by rw [← k]; exact h)
 · exact .inl (by rw [h]; exact k)
 · exact .inr ⟨h.trans k, by omega⟩
theorem cmpE_lt (x y : SnV) : cmpE x y < 0 ↔ ltV x y := by
 unfold cmpE cmpS3 ltV
 rcases ltb_cases x.k y.k with h | h | h
 · rw [h]; simp
 · rw [h, ltb_irrefl]
   simp only [Bool.false_eq_true, if_false, if_true, false_or, true_and]
   split
   · constructor
     · intro _; omega
     · intro _; omega
   · split <;> constructor <;> intro _ <;> omega
 · have := ltb_asymm h
   have hne := ltb_ne h
   rw [this, h]
   simp only [Bool.false_eq_true, if_false, if_true, false_or]
   constructor
   · intro h; split at h <;> omega
   · rintro ⟨e, _⟩; exact absurd e.symm hne
theorem swoE : SWO (ltOf cmpE) where
 irrefl x := by unfold ltOf; rw [decide_eq_false]; rw [cmpE_lt]; exact ltV_irrefl x
 trans x y z h1 h2 := by
  unfold ltOf at *
  have h1 := (cmpE_lt x y).1 (of_decide_eq_true h1)
  have h2 := (cmpE_lt y z).1 (of_decide_eq_true h2)
  exact decide_eq_true ((cmpE_lt x z).2 (ltV_trans h1 h2))
 ntrans x y z h1 h2 := by
  unfold ltOf at *
  have h1 : ¬ ltV x y := fun h => of_decide_eq_false h1 ((cmpE_lt x y).2 h)
  have h2 : ¬ ltV y z := fun h => of_decide_eq_false h2 ((cmpE_lt y z).2 h)
  refine decide_eq_false fun h3 => ?_
  have h3 := (cmpE_lt x z).1 h3
  rcases ltb_cases x.k y.k with a | a | a
  · exact h1 (.inl a)
  · rcases ltb_cases y.k z.k with b | b | b
    · exact h2 (.inl b)
    · rcases h3 with c | ⟨c, c'⟩
      · rw [a, b, ltb_irrefl] at c; cases c
      · by_cases d : x.p < y.p
        · exact h1 (.inr ⟨a, d⟩)
        · exact h2 (.inr ⟨b, by omega⟩)
    · rcases h3 with c | ⟨c, c'⟩
      · rw [a] at c; exact absurd (ltb_trans b c) (by rw [ltb_irrefl]; simp)
      · rw [← c, a, ltb_irrefl] at b; cases b
  · rcases h3 with c | ⟨c, c'⟩
    · rcases ltb_cases y.k z.k with b | b | b
      · exact h2 (.inl b)
      · rw [b] at a; exact absurd (ltb_trans a c) (by rw [ltb_irrefl]; simp)
      · exact absurd (ltb_trans (ltb_trans b a) c) (by rw [ltb_irrefl]; simp)
    · rw [c] at a; exact h2 (.inl a) |>.elim
theorem snv_of_srt : ∀ {a b : List SnV}, a.Pairwise ltV → b.Pairwise ltV → a.Perm b → a = b
 | [], b, _, _, h => (List.nil_perm.1 h).symm
 | x :: a, [], _, _, h => by have := h.length_eq; simp at this
 | x :: a, y :: b, ha, hb, h => by
   obtain ⟨a1, a2⟩ := List.pairwise_cons.1 ha
   obtain ⟨b1, b2⟩ := List.pairwise_cons.1 hb
   have e : x = y := by
    have hx : x ∈ y :: b := h.mem_iff.1 List.mem_cons_self
    have hy : y ∈ x :: a := h.mem_iff.2 List.mem_cons_self
    rcases List.mem_cons.1 hx with e | hx
    · exact e
    · rcases List.mem_cons.1 hy with e | hy
      · exact e.symm
      · exact absurd (ltV_trans (b1 x hx) (a1 y hy)) (ltV_irrefl y)
   subst e
   rw [snv_of_srt a2 b2 h.cons_inv]
abbrev inhSn : Inhabited SnV := ⟨⟨⟨#[]⟩, 0, vz⟩⟩
def snCs (l : List SnV) : List Value := l.flatMap snC
theorem snCs_at : ∀ (l : List SnV) (i : Nat) (h : i < l.length), (snCs l)[i * 3]? = some (.string l[i].k) ∧ (snCs l)[i * 3 + 1]? = some (.int .i64 l[i].p) ∧ (snCs l)[i * 3 + 2]? = some (.slice l[i].r.a l[i].r.n l[i].r.c)
 | x :: l, 0, _ => ⟨rfl, rfl, rfl⟩
 | x :: l, i + 1, h => by
   have ih := snCs_at l i (by simpa using h)
   have e : snCs (x :: l) = .string x.k :: .int .i64 x.p :: .slice x.r.a x.r.n x.r.c :: snCs l := rfl
   rw [e, show (i + 1) * 3 = i * 3 + 1 + 1 + 1 by omega]
   simp only [List.getElem?_cons_succ, List.getElem_cons_succ]
   exact ih
theorem snCs_one (l : List SnV) : ∀ u ∈ snCs l, u.oneCell' = true := fun u hu => by
 obtain ⟨c, _, hc⟩ := List.mem_flatMap.1 hu
 simp only [snC, List.mem_cons, List.not_mem_nil, or_false] at hc
 rcases hc with rfl | rfl | rfl <;> rfl
def RowN (w : World) (B : Nat) (v : Value) (l : List SnV) : Prop := w.ownsRow B 105 3 v l.length (snCs l)
def SnsAt (w : World) (g : Nat) (l : List SnV) : Prop := ∀ i (h : i < l.length), w.cell? ⟨g, i * 3, none⟩ = some (.string l[i].k) ∧ w.cell? ⟨g, i * 3 + 1, none⟩ = some (.int .i64 l[i].p) ∧ w.cell? ⟨g, i * 3 + 2, none⟩ = some (.slice l[i].r.a l[i].r.n l[i].r.c)
theorem own_rowN {w : World} {base : Nat} {v : Value} {l : List SnV} (h : RowN w base v l) (hn : l ≠ []) : ∃ g cap, v = .slice (some ⟨g, 0, none⟩) l.length cap ∧ base ≤ g ∧ g < w.heap.size ∧ ∀ j, j < l.length * 3 → w.cell? ⟨g, j, none⟩ = (snCs l)[j]? ∧ w.frozen? ⟨g, j, none⟩ = false := by
 rcases h.2 with ⟨_, h0⟩ | ⟨g, cap, cur, rfl, h1, h2, h3, h4, h5, h6⟩
 · exact absurd (List.eq_nil_of_length_eq_zero h0) hn
 · refine ⟨g, cap, rfl, h1, blk_lt h2, fun j hj => ⟨?_, frozen_of h2⟩⟩
   rw [cell_of_row w g j cur 105 (0, 0) h2, ← h6, List.getElem?_take_of_lt hj]
   simp
set_option maxHeartbeats 1000000 in
theorem sortS_ {w : World} {base : Nat} {v : Value} {ss ks : List SnV} (h : RowN w base v ss) (hn : ss ≠ []) (hl : ss.length ≤ 100000000) (hp : ss.Perm ks) (hk : ks.Pairwise ltV) :
 Calls Tryz.prog 28 #[v, .func (.func 29) #[] #[]] w fun e w' => e = .returned (.tuple #[]) ∧ ∃ g cap, v = .slice (some ⟨g, 0, none⟩) ks.length cap ∧ base ≤ g ∧ SnsAt w' g ks ∧ w'.os = w.os ∧ w'.tape = w.tape ∧ w'.output = w.output ∧ w.heap.size ≤ w'.heap.size ∧ g < w.heap.size ∧ ∀ k, k < w.heap.size → k ≠ g → w'.heap[k]? = w.heap[k]? := by
 letI := inhSn
 obtain ⟨g, cap, rfl, h1, h2, h3⟩ := own_rowN h hn
 have hsz : ss.toArray.size = ss.length := by simp
 have hget : ∀ i, i < ss.length → ss.toArray[i]! = ss[i]! := fun i _ => by simp
 have hH : HoldsK snC 3 w g 0 ss.toArray := by
  intro j hj
  rw [size_flatK, hsz] at hj
  obtain ⟨e1, e2⟩ := h3 j hj
  rw [Nat.zero_add]
  refine ⟨?_, e2⟩
  rw [e1, get_flatK snC 3 ss.toArray j (by rw [hsz]; exact hj)]
  obtain ⟨f0, f1, f2⟩ := snCs_at ss (j / 3) (by omega)
  have e0 : ss.toArray[j / 3]! = ss[j / 3]'(by omega) := by
   rw [hget _ (by omega), getElem!_pos ss (j / 3) (by omega)]
  rw [e0]
  generalize ss[j / 3]'(by omega) = x at *
  rcases (by omega : j % 3 = 0 ∨ j % 3 = 1 ∨ j % 3 = 2) with h0 | h0 | h0
  · rw [show j / 3 * 3 = j by omega] at f0
    rw [f0, h0]; rfl
  · rw [show j / 3 * 3 + 1 = j by omega] at f1
    rw [f1, h0]; rfl
  · rw [show j / 3 * 3 + 2 = j by omega] at f2
    rw [f2, h0]; rfl
 have hC : CmpLays Tryz.prog 29 #[] snC 3 cmpE g 0 ss.toArray.size w := fun m os dk _ x y => compare_ x y _
 have eg : ∀ args w, (callFunc 29 args).run Tryz.prog w = .ok (.enter 29 args) w := enters_of Tryz.func29 (by kernel_rfl) rfl
 have hs := AnyQ.slices_SortFunc Tryz.sortP 3 (fun w => by kernel_rfl) (fun w => by kernel_rfl) snC (fun _ => rfl) (fun x v hv => by simp only [snC, List.mem_cons, List.not_mem_nil, or_false] at hv; rcases hv with rfl | rfl | rfl <;> rfl) cmpE swoE 29 #[] g 0 cap ss.toArray w eg hC hH h2 (by rw [hsz]; omega)
 rw [hsz] at hs
 refine hs.mono ?_
 rintro e w' ⟨rfl, d', n, os, hP, hS, rfl⟩
 have hds : d'.size = ss.length := by rw [hP.1, hsz]
 have hperm : d'.toList.Perm ss := by
  have := hP.2.2
  have e2 : (d'.extract 0 ss.length).toList = d'.toList := by rw [← hds]; simp
  have e3 : (ss.toArray.extract 0 ss.length).toList = ss := by simp
  rw [e2, e3] at this
  exact this
 have e1 : d'.toList = ks := by
  refine snv_of_srt ?_ hk (hperm.trans hp)
  have hdis : d'.toList.Pairwise fun x y => ltV x y ∨ ltV y x := by
   have h1 : ks.Pairwise fun x y => ltV x y ∨ ltV y x := List.Pairwise.imp (fun h => .inl h) hk
   exact ((hperm.trans hp).pairwise_iff fun h => h.symm).2 h1
  rw [List.pairwise_iff_getElem] at hdis ⊢
  intro i j hi hj hij
  have hi' : i < d'.size := by simpa using hi
  have hj' : j < d'.size := by simpa using hj
  have := hS i j (Nat.zero_le _) hij (by omega)
  unfold ltOf at this
  have hno : ¬ ltV d'[j]! d'[i]! := fun h => of_decide_eq_false this ((cmpE_lt _ _).2 h)
  rw [getElem!_pos d' j hj', getElem!_pos d' i hi'] at hno
  have hne := hdis i j hi hj hij
  simp only [Array.getElem_toList] at hne ⊢
  exact hne.resolve_right hno
 have hkl : ks.length = ss.length := hp.length_eq.symm
 have hH' := holdsK_sortWorldK snC 3 w g 0 n ss.toArray d' os h2 hH (by rw [hds, hsz])
 refine ⟨rfl, g, cap, by rw [hkl], h1, ?_, rfl, rfl, rfl, size_sortWorldK_c snC 3 w g 0 n d' os, h2, fun k hk hne => ?_⟩
 · intro i hi
   have hi' : i < d'.size := by omega
   have e2 : d'[i]! = ks[i] := by
    rw [getElem!_pos d' i hi']
    simp only [← e1, Array.getElem_toList]
   have c0 := (hH'.cell (c := 0) hi' (by omega)).1
   have c1 := (hH'.cell (c := 1) hi' (by omega)).1
   have c2 := (hH'.cell (c := 2) hi' (by omega)).1
   rw [e2] at c0 c1 c2
   rw [Nat.zero_add] at c0 c1 c2
   exact ⟨c0, c1, c2⟩
 · unfold sortWorldK putRowK Go.Sort.grow putRow mapBlock Sort.ahead
   simp only
   rw [Array.getElem?_append_left (by simpa using hk), Array.getElem?_modify, if_neg (fun e => hne e.symm)]
end Go.Proofs.YtalmanfjiblhcaaGreat
namespace Go.Proofs.YtalmanfjiblhcaaGreat
open Go.RowKit Go.Sort Go.Shelf
theorem bitsLen0 (w : World) : Calls Tryz.prog 54 #[.int .u64 0] w fun e w' => e = .returned (.int .i64 0) ∧ w' = w :=
 Any.bits_Len (SlLaysF0.n15.bits (P := Tryz.prog) (ρ := Tryz.sortP_ren) { Tryz.sortP with }) 0 w (by omega) (by omega)
set_option maxHeartbeats 1000000 in
theorem ins_nil (fv : Value) (w : World) : Calls Tryz.prog 84 #[.slice none 0 0, .int .i64 0, .int .i64 0, fv] w fun e w' => e = .returned (.tuple #[]) ∧ w' = w := by
 go_enter Tryz.func84, Tryz.ntmps84
 go_wp2_with fail
 refine wp_loop_rounds 1 ?_
 rw [rounds_succ]
 go_wp2_with fail
 go_end0
 exact ⟨rfl, rfl⟩
set_option maxHeartbeats 1000000 in
theorem pdq_nil (fv : Value) (w : World) : Calls Tryz.prog 53 #[.slice none 0 0, .int .i64 0, .int .i64 0, .int .i64 0, fv] w fun e w' => e = .returned (.tuple #[]) ∧ w' = w := by
 have H := Lib.hid (ins_nil fv w)
 go_enter Tryz.func53, Tryz.ntmps53
 go_wp2_with fail
 refine wp_loop_rounds 1 ?_
 rw [rounds_succ]
 go_wp2_with fail
 refine H.out.mono ?_
 rintro e w1 ⟨rfl, rfl⟩
 go_wp2_with fail
 exact bodyPost_ret (results_none rfl _ _ _) rfl ⟨rfl, rfl⟩
set_option maxHeartbeats 1000000 in
theorem sortF_nil (fv : Value) (w : World) : Calls Tryz.prog 28 #[.slice none 0 0, fv] w fun e w' => e = .returned (.tuple #[]) ∧ w' = w := by
 have H := Lib.hid (pdq_nil fv w)
 have HB := Lib.hid (bitsLen0 w)
 go_enter Tryz.func28, Tryz.ntmps28
 go_wp2_with fail
 refine HB.out.mono ?_
 rintro e w1 ⟨rfl, rfl⟩
 go_wp2_with fail
 refine H.out.mono ?_
 rintro e w2 ⟨rfl, rfl⟩
 go_wp2_with fail
 go_end0
 exact ⟨rfl, rfl⟩
end Go.Proofs.YtalmanfjiblhcaaGreat
