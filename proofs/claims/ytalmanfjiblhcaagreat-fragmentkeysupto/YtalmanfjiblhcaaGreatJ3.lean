/- Bytes in memory: what pack's calls ask for beside order's; How bytes lie in memory; the walks of pack.Len, withRoom, lay, AppendUint, and of the law's twin; The walks of pack.canEnd, Uint; Rows plainly: which values are a row of a table, their key, their bytes; what is laid is read. No program is walked in it. -/
import Derived.Test.YtalmanfjiblhcaaGreatChecked
import Derived.Test.YtalmanfjiblhcaaGreatJ2
import Derived.WalkKit
import Derived.WalkSpells
import Derived.WalkLawsBesides
import Derived.OwnWalk
import Derived.Laws.BytesArg
import Derived.Lib.AppendStr
import Derived.Lib.QuietBelow
import Derived.Lib.Hide
import Derived.Deep.RegionWith
import Derived.Deep.WholeRow
import Derived.Deep.LoopGhost
import Derived.Laws.ResultCell
import Derived.Lib.SlBytesConst
import Derived.Deep.AppendLies
import Derived.Test.YtalmanfjiblhcaaGreatJ1
namespace Go.Proofs.YtalmanfjiblhcaaGreat.Rw
open Go.RowKit Go.Sort Go.Maps
def rdT (xs : List Nat) (most : Int) : List Nat × Nat × Nat :=
 if most < 0 then ([], 0, 1) else if (rdU xs).2.2 ≠ 0 then ([], 0, (rdU xs).2.2) else if most < (rdU xs).1 then ([], 0, 2) else if xs.length - (rdU xs).2.1 < (rdU xs).1 then ([], 0, 12)
 else ((xs.drop (rdU xs).2.1).take (rdU xs).1, (rdU xs).2.1 + (rdU xs).1, 0)
def intOf : Value → Int | .int _ q => q | _ => 0
theorem wpList_store_at {ops : Array Oper} {rest : List Oper} {op : Oper} {a : Act} {w w' : World} {Q : Exit → Act → World → Prop} (hgd : op.guard = none) (ty : TypeId) (x y : Operand) (ho : op.op = .store ty x y)
 (p v : Value) (hx : a.eval x = p) (hy : a.eval y = v) (hr : (Instr.storeAt ty p v).run Tryz.prog w = .ok () w') (h : wpList Tryz.prog ops Q rest (a.put op.dst undef) w') : wpList Tryz.prog ops Q (op :: rest) a w :=
 wpList_plain hgd fun _ hK => by
  unfold Oper.wp execOp
  simp only [ho, hx, hy, hr, Sem.run_bind, Sem.run_pure, Result.andThen_ok]
  exact hK _ _ h
def Made (w : World) (xs : List Nat) (e : Ending) (w' : World) : Prop :=
 ∃ a c, e = .returned (.slice a xs.length c) ∧ Own w' w.heap.size (.slice a xs.length c) xs ∧ BytesIn w' a xs ∧ (a = none → c = 0) ∧ Below w.heap.size w w'
theorem made_of {w w' : World} {v : Value} {xs : List Nat} (h : Own w' w.heap.size v xs) (hb : Below w.heap.size w w') : Made w xs (.returned v) w' := by
 obtain ⟨a, c, rfl, h1, h2⟩ := h.bytes
 exact ⟨a, c, rfl, h, h1, h2, hb⟩
def errK (k : Nat) : Value := if k = 0 then .nilIface else .iface 77 (.int .i64 k)
theorem wraps_u64 (n : Int) (h0 : 0 ≤ n) (h1 : n < 2 ^ 64) : IntKind.u64.wrap n = n := by rw [IntKind.wrap_u64]; omega
theorem errK_not {e : Nat} (h : e ≠ 0) : errK e = .iface 77 (.int .i64 e) := by unfold errK; rw [if_neg h]
theorem own_mk {w : World} {base g c n : Nat} {xs : List Nat} (hn : xs.length = n) (h : w.ownsRow base 5 1 (.slice (some ⟨g, 0, none⟩) (0 + n) c) (0 + n) ([] ++ vals xs)) : Own w base (.slice (some ⟨g, 0, none⟩) n c) xs := by
 subst hn
 rw [Nat.zero_add, List.nil_append] at h
 exact h
def pt (b : Nat) : Value := .pointer (some ⟨b, 0, none⟩)
theorem blk_lt {w : World} {k : Nat} {o : Obj} (h : w.heap[k]? = some o) : k < w.heap.size := (Array.getElem?_eq_some_iff.1 h).1
theorem cell_of {w : World} {k o : Nat} {c : Array Value} {t : TypeId} {z : Nat × Nat} {v : Value} (h : w.heap[k]? = some (.cells c t z)) (hv : c[o]? = some v) : w.cell? ⟨k, o, none⟩ = some v := by
 simp [World.cell?, h, hv]
theorem frozen_of {w : World} {k o : Nat} {c : Array Value} {t : TypeId} (h : w.heap[k]? = some (.cells c t (0, 0))) : w.frozen? ⟨k, o, none⟩ = false := by
 simp [World.frozen?, h]
theorem heap_set {w : World} {k o : Nat} {c : Array Value} {t : TypeId} {z : Nat × Nat} (v : Value) (h : w.heap[k]? = some (.cells c t z)) : (w.setCell ⟨k, o, none⟩ v).heap[k]? = some (.cells (c.setIfInBounds o v) t z) := by
 simp [World.setCell, Array.getElem?_modify, h]
theorem below_drewN {W w : World} (h : Below W.heap.size W w) (n : Nat) : Below W.heap.size W (w.drewN n) := below_step h ⟨rfl, rfl, rfl, Nat.le_refl _, fun _ _ => rfl⟩
theorem below_alloc (w : World) (o : Obj) : Below w.heap.size w (w.alloc o) := (Below.refl _ _).alloc (Nat.le_refl _) _
end Go.Proofs.YtalmanfjiblhcaaGreat.Rw
namespace Go.Proofs.YtalmanfjiblhcaaGreat.Rw
open Go.RowKit Go.Sort
set_option maxHeartbeats 400000 in
theorem len_ (n : Nat) (w : World) (hn : n < 18446744073709551616) :
 Calls Tryz.prog 139 #[.int .u64 n] w fun e w' => e = .returned (.int .i64 (enc n).length) ∧ w' = w := by
 have hl := enc_length n hn
 have hb := Lib.bitLen_le n 64 (by omega) (by omega)
 have H := Tryz.bits_Len64 n w (by omega) (by omega)
 rw [Int.toNat_natCast] at H
 generalize Lib.bitLen n = k at *
 generalize (enc n).length = m at *
 have H' := Lib.hid H
 clear H
 go_enter Tryz.func139, Tryz.ntmps139
 go_wp2_with fail
 refine H'.out.mono ?_
 rintro e w1 ⟨rfl, rfl⟩
 go_wp2
 go_ret
 exact ⟨ret_int (by omega), rfl⟩
theorem not64 (n : Int) (h0 : -9223372036854775808 ≤ n) (h1 : n ≤ 9223372036854775807) : bits .xor .i64 (-1) n = -n - 1 := by
 show IntKind.i64.wrap ((BitVec.ofInt 64 (-1) ^^^ BitVec.ofInt 64 n).toNat : Int) = _
 rw [show BitVec.ofInt 64 (-1) = BitVec.allOnes 64 by decide, BitVec.allOnes_xor, BitVec.toNat_not, BitVec.toNat_ofInt, IntKind.wrap_i64]
 omega
end Go.Proofs.YtalmanfjiblhcaaGreat.Rw
namespace Go.Proofs.YtalmanfjiblhcaaGreat.Rw
open Go.RowKit Go.Sort
def canB (y i : Nat) : Bool := !(decide ((i ≠ 0 ∧ y = 0) ∨ (i = 9 ∧ 1 < y)))
set_option maxHeartbeats 400000 in
theorem canEnd_ (y i : Nat) (w : World) (hy : y < 256) (hi : i < 10) :
 Calls Tryz.prog 161 #[.int .u8 y, .int .i64 i] w fun e w' => e = .returned (.bool (canB y i)) ∧ w' = w := by
 by_cases h0 : i = 0
 · subst h0
   go_enter Tryz.func161, Tryz.ntmps161
   go_wp2
   go_ret
   exact ⟨ret_bool (by simp [canB]), rfl⟩
 · go_enter Tryz.func161, Tryz.ntmps161
   go_wp2
   all_goals (go_ret; refine ⟨ret_bool (Bool.eq_iff_iff.2 ?_), rfl⟩; simp [canB]; omega)
theorem andNot128_all : ∀ x : Fin 256, bits .andNot .u8 (x.val : Int) 128 = ((x.val % 128 : Nat) : Int) := by decide +kernel
theorem andNot128 (y : Nat) (h : y < 256) : bits .andNot .u8 (y : Int) 128 = ((y % 128 : Nat) : Int) := andNot128_all ⟨y, h⟩
theorem and128_all : ∀ x : Fin 256, bits .and .u8 (x.val : Int) 128 = if 128 ≤ x.val then 128 else 0 := by decide +kernel
theorem and128 (y : Nat) (h : y < 256) : bits .and .u8 (y : Int) 128 = if 128 ≤ y then 128 else 0 := and128_all ⟨y, h⟩
theorem step_bits (X y k : Nat) (hy : y < 256) (hk : k < 10) (hX : X < 128 ^ k) : ∃ N : Nat, bits .or .u64 (X : Int) (IntKind.u64.wrap (IntKind.u64.wrap (bits .andNot .u8 (y : Int) 128) * 2 ^ (7 * k))) = (N : Int) ∧ ((k < 9 ∨ y % 128 ≤ 1) → N = X + y % 128 * 128 ^ k) := by
 have hp : (128 : Nat) ^ k = 2 ^ (7 * k) := by rw [Nat.pow_mul]
 have h9 : (2 : Nat) ^ (7 * k) ≤ 2 ^ 63 := Nat.pow_le_pow_right (by decide) (by omega)
 rw [andNot128 y hy, IntKind.wrap_u64, IntKind.wrap_u64]
 have e1 : (((y % 128 : Nat) : Int) % 18446744073709551616 * 2 ^ (7 * k)) % 18446744073709551616 = ((y % 128 * 2 ^ (7 * k) % 18446744073709551616 : Nat) : Int) := by
  have : ((y % 128 : Nat) : Int) % 18446744073709551616 = ((y % 128 : Nat) : Int) := by omega
  rw [this]
  generalize y % 128 = z
  rw [Int.natCast_emod, Int.natCast_mul, Int.natCast_pow]
  rfl
 rw [e1, (bits_nat .u64 64 (by decide) wraps_u64 X (y % 128 * 2 ^ (7 * k) % 18446744073709551616) (by rw [hp] at hX; omega) (by omega)).2]
 refine ⟨_, rfl, fun hh => ?_⟩
 have hlt : y % 128 * 2 ^ (7 * k) < 18446744073709551616 := by
  rcases hh with hh | hh
  · have h8 : (2 : Nat) ^ (7 * k) ≤ 2 ^ 56 := Nat.pow_le_pow_right (by decide) (by omega)
    have : y % 128 * 2 ^ (7 * k) ≤ 127 * 2 ^ 56 := Nat.mul_le_mul (by omega) h8
    omega
  · have : y % 128 * 2 ^ (7 * k) ≤ 1 * 2 ^ 63 := Nat.mul_le_mul hh h9
    omega
 rw [Nat.mod_eq_of_lt hlt, hp, Nat.or_comm, Nat.mul_comm (y % 128)]
 rw [hp] at hX
 rw [← Nat.two_pow_add_eq_or_of_lt hX, Nat.add_comm]
set_option maxRecDepth 100000 in
set_option maxHeartbeats 2000000 in
theorem uint_ (a : Option Addr) (xs : List Nat) (c : Nat) (w : World) (h : BytesIn w a xs) (hb : ∀ x ∈ xs, x < 256) (hlim : xs.length ≤ 9223372036854775807) :
 Calls Tryz.prog 158 #[.slice a xs.length c] w fun e w' => e = .returned (.tuple #[.int .u64 (rdU xs).1, .int .i64 (rdU xs).2.1, errK (rdU xs).2.2]) ∧ w' = w := by
 have HB := Lib.hid h
 have HA := Lib.hid hb
 obtain ⟨R, hR⟩ : ∃ R, R = rdU xs := ⟨_, rfl⟩
 rw [← hR]
 have HR := Lib.hid hR
 clear h hb hR
 generalize hL : xs.length = len at *
 have HLen := Lib.hid hL
 clear hL
 go_enter Tryz.func158, Tryz.ntmps158
 go_wp2_with fail
 go_loopw [5, 7] (fun nv iv wr => ∃ (k X : Nat), k ≤ 10 ∧ iv = .int .i64 k ∧ nv = .int .u64 X ∧ wr = w ∧ (k < 10 → R = dec X k (xs.drop k) ∧ k ≤ len ∧ X < 128 ^ k) ∧ (k = 10 → R = (0, 0, 3))) (fun _ iv _ => 10 - (intOf iv).toNat)
 case atStart => exact ⟨0, 0, by omega, rfl, rfl, rfl, fun _ => ⟨HR.out, by omega, by simp⟩, fun hh => by omega⟩
 case round =>
  obtain ⟨k, X, hk, rfl, rfl, rfl, h1, h2⟩ := hrel
  have H1 := Lib.hid h1
  have H2 := Lib.hid h2
  clear h1 h2
  by_cases hk10 : k < 10
  · obtain ⟨hd, hkl, hX⟩ := H1.out hk10
    by_cases hend : k = len
    · have e : R = (0, 0, 12) := by
       rw [hd, List.drop_eq_nil_of_le (by rw [HLen.out, hend]; exact Nat.le_refl _)]
       unfold dec
       rw [if_neg (by omega)]
      subst e
      clear hd H1 H2
      go_wp2_with fail
      go_ret3
      exact ⟨rfl, rfl⟩
    · have hlt : k < xs.length := by rw [HLen.out]; omega
      obtain ⟨y, hy⟩ : ∃ y, y = xs.getD k 0 := ⟨_, rfl⟩
      obtain ⟨b, o, rfl, hc⟩ := HB.out k hlt
      rw [← hy] at hc
      have hdrop : xs.drop k = y :: xs.drop (k + 1) := by
       rw [List.drop_eq_getElem_cons hlt, hy, List.getD_eq_getElem?_getD, List.getElem?_eq_getElem hlt]
       rfl
      have hy256 : y < 256 := HA.out y (by rw [hy, List.getD_eq_getElem?_getD, List.getElem?_eq_getElem hlt]; exact List.getElem_mem hlt)
      rw [hdrop] at hd
      unfold dec at hd
      rw [if_neg (by omega)] at hd
      obtain ⟨N, hN, hNe⟩ := step_bits X y k hy256 hk10 hX
      have hpw : (128 : Nat) ^ (k + 1) = 128 ^ k * 128 := Nat.pow_succ ..
      have hand := and128 y hy256
      have HC := Lib.hid (canEnd_ y k wr hy256 hk10)
      have hki : (0 : Int) ≤ (k : Int) := by omega
      have hkl2 : (k : Int) < (len : Int) := by omega
      by_cases hc128 : 128 ≤ y
      · rw [if_pos hc128] at hand hd
        have hfin : ∃ X' : Nat, (N : Int) = (X' : Nat) ∧ (k + 1 < 10 → R = dec X' (k + 1) (xs.drop (k + 1)) ∧ k + 1 ≤ len ∧ X' < 128 ^ (k + 1)) ∧ (k + 1 = 10 → R = (0, 0, 3)) := by
         refine ⟨N, rfl, fun h9 => ?_, fun h10 => ?_⟩
         · have e := hNe (.inl (by omega))
           rw [show y % 128 = y - 128 by omega] at e
           refine ⟨by rw [hd, e], by omega, ?_⟩
           have : (y - 128) * 128 ^ k ≤ 127 * 128 ^ k := Nat.mul_le_mul_right _ (by omega)
           rw [e, hpw]
           omega
         · rw [hd]
           obtain rfl : k = 9 := by omega
           unfold dec
           cases List.drop (9 + 1) xs <;> rfl
        have HF := Lib.hid hfin
        clear hfin hd hX hdrop hy hlt H1 H2 hNe hpw HC
        go_wp2_with fail
        go_roundw
        case rel =>
         obtain ⟨X', e1, e2, e3⟩ := HF.out
         exact ⟨k + 1, X', by omega, by go_num, by rw [e1], trivial, e2, e3⟩
        case measure => simp [intOf]; omega
      · rw [if_neg hc128] at hand hd
        have hfin : (canB y k = false → R = (0, 0, 3)) ∧ (canB y k = true → R = (N, k + 1, 0)) := by
         refine ⟨fun hh => ?_, fun hh => ?_⟩
         · simp only [canB, Bool.not_eq_false', decide_eq_true_eq] at hh
           rw [hd, if_pos hh]
         · simp only [canB, Bool.not_eq_true', decide_eq_false_iff_not] at hh
           rw [hd, if_neg hh, hNe (by omega), Nat.mod_eq_of_lt (by omega)]
        have HF := Lib.hid hfin
        generalize canB y k = cb at *
        clear hfin hd hX hdrop hy hlt H1 H2 hNe hpw
        go_wp2_with fail
        refine HC.out.mono ?_
        rintro e w1 ⟨rfl, rfl⟩
        cases cb
        · have e := HF.out.1 rfl
          subst e
          clear HF
          go_wp2_with fail
          go_ret3
          exact ⟨rfl, rfl⟩
        · have e := HF.out.2 rfl
          subst e
          clear HF
          go_wp2_with fail
          go_ret3
          exact ⟨rfl, rfl⟩
  · obtain rfl : k = 10 := by omega
    have e := H2.out rfl
    subst e
    clear H1 H2
    go_wp2_with fail
    go_ret3
    exact ⟨rfl, rfl⟩
def rdI (xs : List Nat) : Int × Nat × Nat := (unzz (rdU xs).1, (rdU xs).2.1, (rdU xs).2.2)
theorem BytesIn.part {w : World} {b o k n : Nat} {xs : List Nat} (h : BytesIn w (some ⟨b, o, none⟩) xs) (hk : k + n ≤ xs.length) : BytesIn w (some ⟨b, o + k, none⟩) ((xs.drop k).take n) := by
 intro i hi
 simp only [List.length_take, List.length_drop] at hi
 obtain ⟨b', o', e, h1⟩ := h (k + i) (by omega)
 cases e
 refine ⟨b, o + k, rfl, ?_⟩
 rw [Nat.add_assoc, h1]
 congr 2
 rw [List.getD_eq_getElem?_getD, List.getD_eq_getElem?_getD, List.getElem?_take, if_pos (by omega), List.getElem?_drop]
set_option maxRecDepth 100000 in
set_option maxHeartbeats 1000000 in
theorem ptext_ (a : Option Addr) (xs : List Nat) (c : Nat) (most : Int) (w : World) (h : BytesIn w a xs) (hb : ∀ x ∈ xs, x < 256) (hlim : xs.length ≤ 9223372036854775807) (hm0 : -9223372036854775808 ≤ most) (hm1 : most ≤ 9223372036854775807) (hcap : xs.length ≤ c) :
 Calls Tryz.prog 150 #[.slice a xs.length c, .int .i64 most] w fun e w' => e = .returned (.tuple #[.string (bs (rdT xs most).1), .int .i64 (rdT xs most).2.1, errK (rdT xs most).2.2]) ∧ w' = w := by
 have HU := Lib.hid (uint_ a xs c w h hb hlim)
 have hlt := rdU_lt xs hb
 have hpos : (rdU xs).2.2 = 0 → 0 < (rdU xs).2.1 := fun hh => (rdU_back xs hb hh).2.1
 have herr := rdU_err xs
 have HB := Lib.hid h
 have hbn : bs [] = ⟨#[]⟩ := rfl
 unfold rdT
 generalize rdU xs = R at *
 obtain ⟨v, k, e⟩ := R
 simp only at herr hlt hpos
 clear h hb
 by_cases h0 : most < 0
 · rw [if_pos h0]
   clear herr hpos hlt HU HB
   generalize xs.length = len at *
   go_enter Tryz.func150, Tryz.ntmps150
   go_wp2_with fail
   go_ret3
   exact ⟨rfl, rfl⟩
 · rw [if_neg h0]
   by_cases he : e = 0
   · subst he
     rw [if_neg (by simp)]
     by_cases h1 : most < v
     · rw [if_pos h1]
       clear herr hpos HB
       generalize xs.length = len at *
       go_enter Tryz.func150, Tryz.ntmps150
       go_wp2_with fail
       refine HU.out.mono ?_
       rintro e w1 ⟨rfl, rfl⟩
       unfold errK
       rw [if_pos rfl]
       go_wp2_with fail
       go_ret3
       exact ⟨rfl, rfl⟩
     · rw [if_neg h1]
       by_cases h2 : xs.length - k < v
       · rw [if_pos h2]
         clear herr hpos HB
         generalize xs.length = len at *
         go_enter Tryz.func150, Tryz.ntmps150
         go_wp2_with fail
         refine HU.out.mono ?_
         rintro e w1 ⟨rfl, rfl⟩
         unfold errK
         rw [if_pos rfl]
         go_wp2_with fail
         go_ret3
         exact ⟨rfl, rfl⟩
       · rw [if_neg h2]
         have hkp := hpos rfl
         obtain ⟨b, o, rfl, _⟩ := HB.out 0 (by omega)
         have hpart := HB.out.part (k := k) (n := v) (by omega)
         have hpl : ((xs.drop k).take v).length = v := by simp; omega
         have hcv := conv_ w _ v (c - k) _ hpl.symm hpart
         have hc0 : v = 0 → (convert 79 9 (.slice (some ⟨b, o, none⟩) 0 0)).run Tryz.prog w = .ok (.string (bs ((xs.drop k).take v))) w := fun hv => by
          subst hv
          rw [List.take_zero]
          exact conv_ w _ 0 0 [] rfl (bytesIn_nil _ _)
         simp only [Int.natCast_add]
         generalize (xs.drop k).take v = ts at *
         clear herr hpos HB hpart hpl
         generalize xs.length = len at *
         have hkl := hlt.2
         have hb1 : (0 : Int) ≤ (k : Int) + v := by omega
         have hb2 : (k : Int) + v ≤ c := by omega
         by_cases hck : c = k
         · subst hck
           obtain rfl : v = 0 := by omega
           have hcv0 := hc0 rfl
           clear hcv hc0
           simp only [Int.natCast_zero, Int.add_zero] at hb1 hb2 ⊢
           go_enter Tryz.func150, Tryz.ntmps150
           go_wp2_with fail
           refine HU.out.mono ?_
           rintro e w1 ⟨rfl, rfl⟩
           unfold errK
           rw [if_pos rfl]
           go_wp2_with fail
           go_ret3
           exact ⟨rfl, rfl⟩
         · clear hc0
           go_enter Tryz.func150, Tryz.ntmps150
           go_wp2_with fail
           refine HU.out.mono ?_
           rintro e w1 ⟨rfl, rfl⟩
           unfold errK
           rw [if_pos rfl]
           go_wp2_with fail
           go_ret3
           exact ⟨rfl, rfl⟩
   · obtain ⟨rfl, rfl⟩ := herr he
     rw [if_pos (by simpa using he)]
     clear hpos HB hlt
     generalize xs.length = len at *
     simp only [errK_not he] at HU ⊢
     go_enter Tryz.func150, Tryz.ntmps150
     go_wp2_with fail
     refine HU.out.mono ?_
     rintro e w1 ⟨rfl, rfl⟩
     go_wp2_with fail
     go_ret3
     exact ⟨rfl, rfl⟩
end Go.Proofs.YtalmanfjiblhcaaGreat.Rw
namespace Go.Proofs.YtalmanfjiblhcaaGreat.Rw
open Go.Lib
structure Col where
 nm : ByteArray
 k : Int
 key : Bool
 nul : Bool
def fitN (c : Col) (v : Val) : Int := if validN v ≠ 0 then validN v else if v.k ≠ 0 ∧ v.k ≠ c.k then 7 else if v.k = 0 ∧ (c.key = true ∨ c.nul = false) then 33 else 0
def chkZ : List Col → List Val → Int
 | c :: cs, v :: vs => if fitN c v ≠ 0 then fitN c v else chkZ cs vs
 | _, _ => 0
def chkR (cs : List Col) (vs : List Val) : Int := if vs.length ≠ cs.length then 1 else chkZ cs vs
theorem chkZ_at : ∀ (i : Nat) (cs : List Col) (vs : List Val), (∀ j (h : j < cs.length) (h' : j < vs.length), j < i → fitN cs[j] vs[j] = 0) → chkZ cs vs = chkZ (cs.drop i) (vs.drop i)
 | 0, _, _, _ => rfl
 | i + 1, [], vs, _ => by simp [chkZ]
 | i + 1, c :: cs, [], _ => by rw [List.drop_nil]; cases (c :: cs).drop (i + 1) <;> simp [chkZ]
 | i + 1, c :: cs, v :: vs, h => by
   have h0 : fitN c v = 0 := h 0 (by simp) (by simp) (by omega)
   rw [chkZ, h0, if_neg (by simp), List.drop_succ_cons, List.drop_succ_cons]
   exact chkZ_at i cs vs fun j hj hj' hji => h (j + 1) (by simp; omega) (by simp; omega) (by omega)
theorem chkR_bad {cs : List Col} {vs : List Val} (hl : vs.length = cs.length) {i : Nat} (hi : i < cs.length) (hi' : i < vs.length) (h : ∀ j (h : j < cs.length) (h' : j < vs.length), j < i → fitN cs[j] vs[j] = 0) {E : Int} (hE : fitN cs[i] vs[i] = E) (h0 : E ≠ 0) : chkR cs vs = E := by
 rw [chkR, if_neg (by simp [hl]), chkZ_at i cs vs h, List.drop_eq_getElem_cons hi, List.drop_eq_getElem_cons hi', chkZ, hE, if_pos h0]
theorem chkR_ok {cs : List Col} {vs : List Val} (hl : vs.length = cs.length) (h : ∀ j (h : j < cs.length) (h' : j < vs.length), fitN cs[j] vs[j] = 0) : chkR cs vs = 0 := by
 rw [chkR, if_neg (by simp [hl]), chkZ_at cs.length cs vs (fun j hj hj' _ => h j hj hj'), List.drop_length]; rfl
theorem chkZ_zero : ∀ (cs : List Col) (vs : List Val), chkZ cs vs = 0 → ∀ j (h : j < cs.length) (h' : j < vs.length), fitN cs[j] vs[j] = 0
 | [], _, _, j, h, _ => by simp at h
 | _ :: _, [], _, j, _, h' => by simp at h'
 | c :: cs, v :: vs, hz, j, h, h' => by
   rw [chkZ] at hz
   by_cases h0 : fitN c v = 0
   · rw [if_neg (by simp [h0])] at hz
     cases j with
     | zero => exact h0
     | succ j => exact chkZ_zero cs vs hz j (by simpa using h) (by simpa using h')
   · rw [if_pos h0] at hz; exact absurd hz h0
theorem chkR_zero {cs : List Col} {vs : List Val} (h : chkR cs vs = 0) : vs.length = cs.length ∧ chkZ cs vs = 0 := by
 unfold chkR at h
 split at h
 · simp at h
 · rename_i hl; exact ⟨by simpa using hl, h⟩
theorem fit_valid {c : Col} {v : Val} (h : fitN c v = 0) : validN v = 0 ∧ (v.k = 0 ∨ v.k = c.k) := by
 unfold fitN at h
 split at h
 · rename_i h0; exact absurd h h0
 · rename_i h0
   split at h
   · simp at h
   · rename_i h1
     refine ⟨by simpa using h0, ?_⟩
     by_cases hk : v.k = 0
     · exact .inl hk
     · exact .inr (Classical.byContradiction fun hn => h1 ⟨hk, hn⟩)
theorem chkR_valid {cs : List Col} {vs : List Val} (h : chkR cs vs = 0) : ∀ v ∈ vs, validN v = 0 := by
 obtain ⟨hl, hz⟩ := chkR_zero h
 intro v hv
 obtain ⟨j, hj, rfl⟩ := List.getElem_of_mem hv
 exact (fit_valid (chkZ_zero cs vs hz j (by omega) hj)).1
def isKey (cs : List Col) (j : Nat) : Bool := (cs[j]?.map (·.key)).getD false
def keyT (cs : List Col) (i : Nat) : List Nat := (List.range i).filter (isKey cs)
def keyI (cs : List Col) : List Nat := keyT cs cs.length
theorem isKey_at {cs : List Col} {i : Nat} (h : i < cs.length) : isKey cs i = cs[i].key := by simp [isKey, List.getElem?_eq_getElem h]
theorem keyT_succ (cs : List Col) (i : Nat) : keyT cs (i + 1) = keyT cs i ++ if isKey cs i = true then [i] else [] := by
 unfold keyT
 rw [List.range_succ, List.filter_append]
 congr 1
 by_cases h : isKey cs i = true <;> simp [h]
theorem keyT_lt {cs : List Col} {i p : Nat} (h : p ∈ keyT cs i) : p < i := by
 unfold keyT at h
 exact List.mem_range.1 (List.mem_filter.1 h).1
theorem keyT_len (cs : List Col) (i : Nat) : (keyT cs i).length ≤ i := by
 unfold keyT
 exact Nat.le_trans (List.length_filter_le _ _) (by simp)
def vZ : Val := ⟨0, 0, ⟨#[]⟩, false⟩
def pickV (vs : List Val) (ps : List Nat) : List Val := ps.map fun p => vs.getD p vZ
def keyV (cs : List Col) (vs : List Val) : List Val := pickV vs (keyI cs)
theorem getD_at {vs : List Val} {p : Nat} (h : p < vs.length) : vs.getD p vZ = vs[p] := by simp [List.getD_eq_getElem?_getD, List.getElem?_eq_getElem h]
theorem keyV_mem {cs : List Col} {vs : List Val} (hl : vs.length = cs.length) {v : Val} (h : v ∈ keyV cs vs) : v ∈ vs := by
 obtain ⟨p, hp, rfl⟩ := List.mem_map.1 h
 have hlt := keyT_lt hp
 rw [getD_at (by omega)]
 exact List.getElem_mem _
def layV (v : Val) : List Nat := if v.k = 0 then [0] else 1 :: (if v.k = 1 then enc (zz v.n) else if v.k = 2 then enc v.t.size ++ sb v.t else [if v.b = true then 1 else 0])
def rowB (vs : List Val) : List Nat := vs.flatMap layV
theorem rowB_nil : rowB [] = [] := rfl
theorem rowB_cons (v : Val) (vs : List Val) : rowB (v :: vs) = layV v ++ rowB vs := by simp [rowB]
theorem rowB_take {vs : List Val} {i : Nat} (hi : i < vs.length) : rowB (vs.take (i + 1)) = rowB (vs.take i) ++ layV vs[i] := by
 rw [List.take_add_one, List.getElem?_eq_getElem hi]
 unfold rowB
 rw [List.flatMap_append]
 simp
def wtV : List Val → Nat
 | [] => 0
 | v :: vs => v.t.size + 5 + wtV vs
theorem layV_len {v : Val} (hn : inI v.n) (ht : v.t.size ≤ 1048576) : (layV v).length ≤ 11 + v.t.size := by
 have h1 := enc_le10 (zz v.n) (zz_lt v.n hn.1 hn.2)
 have h2 := enc_le10 v.t.size (by omega)
 unfold layV
 repeat' split
 all_goals simp [sb_length]
 all_goals omega
theorem wtV_len : ∀ vs, vs.length ≤ wtV vs
 | [] => Nat.le_refl _
 | v :: vs => by have := wtV_len vs; simp only [wtV, List.length_cons]; omega
theorem rowB_len : ∀ (vs : List Val) (n : Nat), (∀ v ∈ vs, inI v.n) → n ≤ 1048576 → wtV vs ≤ n → (rowB vs).length ≤ 3 * wtV vs
 | [], _, _, _, _ => by simp [rowB]
 | v :: vs, n, hn, h1, h2 => by
   simp only [wtV] at h2 ⊢
   have := rowB_len vs n (fun x hx => hn x (List.mem_cons_of_mem _ hx)) h1 (by omega)
   have := layV_len (hn v List.mem_cons_self) (by omega)
   rw [rowB_cons, List.length_append]
   omega
theorem wtV_take : ∀ (vs : List Val) (i : Nat), wtV (vs.take i) ≤ wtV vs
 | [], i => by simp
 | v :: vs, 0 => by simp [wtV]
 | v :: vs, i + 1 => by have := wtV_take vs i; simp only [List.take_succ_cons, wtV]; omega
theorem rowB_lim {vs : List Val} (hn : ∀ v ∈ vs, inI v.n) (hw : wtV vs ≤ 1048576) (i : Nat) : (rowB (vs.take i)).length ≤ 3145728 := by
 have h1 := wtV_take vs i
 have := rowB_len (vs.take i) 1048576 (fun v hv => hn v (List.mem_of_mem_take hv)) (Nat.le_refl _) (by omega)
 omega
theorem layV_byte (v : Val) : ∀ x ∈ layV v, x < 256 := by
 unfold layV
 repeat' split
 all_goals intro x hx
 all_goals simp only [List.mem_cons, List.mem_append, List.not_mem_nil, or_false] at hx
 · omega
 · rcases hx with rfl | hx
   · omega
   · exact enc_byte _ x hx
 · rcases hx with rfl | hx | hx
   · omega
   · exact enc_byte _ x hx
   · exact sb_byte _ x hx
 · rcases hx with rfl | rfl <;> omega
 · rcases hx with rfl | rfl <;> omega
theorem rowB_byte (vs : List Val) : ∀ x ∈ rowB vs, x < 256 := by
 intro x hx
 obtain ⟨v, _, h⟩ := List.mem_flatMap.1 hx
 exact layV_byte v x h
def someR (k : Int) (xs : List Nat) : Val × Nat × Bool :=
 if k = 1 then (⟨1, (rdI xs).1, ⟨#[]⟩, false⟩, (rdI xs).2.1, decide ((rdI xs).2.2 = 0))
 else if k = 2 then (⟨2, 0, bs (rdT xs 4096).1, false⟩, (rdT xs 4096).2.1, decide ((rdT xs 4096).2.2 = 0))
 else if k = 3 ∧ 0 < xs.length ∧ xs.getD 0 0 ≤ 1 then (⟨3, 0, ⟨#[]⟩, xs.getD 0 0 == 1⟩, 1, true) else (vZ, 0, false)
def firstR (k : Int) (xs : List Nat) : Val × Nat × Bool :=
 if xs.length = 0 ∨ 1 < xs.getD 0 0 then (vZ, 0, false) else if xs.getD 0 0 = 0 then (vZ, 1, true) else ((someR k (xs.drop 1)).1, 1 + (someR k (xs.drop 1)).2.1, (someR k (xs.drop 1)).2.2)
theorem fit_cases {v : Val} (h : validN v = 0) : v = vZ ∨ (∃ n, v = ⟨1, n, ⟨#[]⟩, false⟩) ∨ (∃ t, v = ⟨2, 0, t, false⟩ ∧ t.size ≤ 4096) ∨ ∃ b, v = ⟨3, 0, ⟨#[]⟩, b⟩ := by
 unfold validN at h
 split at h
 · simp at h
 · rename_i hf
   split at h
   · simp at h
   · rename_i hs
     obtain ⟨k, n, t, b⟩ := v
     simp only [fit] at hf
     simp only [Bool.not_eq_false, Bool.or_eq_true, Bool.and_eq_true, beq_iff_eq, Bool.not_eq_true'] at hf
     rcases hf with ((⟨⟨⟨rfl, rfl⟩, h3⟩, rfl⟩ | ⟨⟨rfl, h3⟩, rfl⟩) | ⟨⟨rfl, rfl⟩, rfl⟩) | ⟨⟨rfl, rfl⟩, h3⟩
     · exact .inl (by rw [ba_empty h3]; rfl)
     · exact .inr (.inl ⟨n, by rw [ba_empty h3]⟩)
     · exact .inr (.inr (.inl ⟨t, rfl, by simpa using hs⟩))
     · exact .inr (.inr (.inr ⟨b, by rw [ba_empty h3]⟩))
theorem first_lay {v : Val} {k : Int} (h : validN v = 0) (hn : inI v.n) (hk : v.k = 0 ∨ v.k = k) (r : List Nat) : firstR k (layV v ++ r) = (v, (layV v).length, true) := by
 rcases fit_cases h with rfl | ⟨n, rfl⟩ | ⟨t, rfl, ht⟩ | ⟨b, rfl⟩
 · simp [layV, firstR, vZ]
 · obtain rfl : (1 : Int) = k := by rcases hk with h | h; · simp at h
                                    · exact h
   have e : layV ⟨1, n, ⟨#[]⟩, false⟩ = 1 :: enc (zz n) := by simp [layV]
   have hr := rdU_enc (zz n) r (zz_lt n hn.1 hn.2)
   rw [e]
   simp only [firstR, List.cons_append, List.length_cons, List.getD_cons_zero, List.drop_succ_cons, List.drop_zero]
   rw [if_neg (by simp), if_neg (by simp)]
   simp only [someR, if_pos, rdI, hr, unzz_zz]
   simp [Nat.add_comm]
 · obtain rfl : (2 : Int) = k := by rcases hk with h | h; · simp at h
                                    · exact h
   have e : layV ⟨2, 0, t, false⟩ = 1 :: (enc t.size ++ sb t) := by simp [layV]
   have hr := rdU_enc t.size (sb t ++ r) (by omega)
   rw [e]
   simp only [firstR, List.cons_append, List.length_cons, List.getD_cons_zero, List.drop_succ_cons, List.drop_zero]
   rw [if_neg (by simp), if_neg (by simp)]
   have hT : rdT (enc t.size ++ sb t ++ r) 4096 = (sb t, (enc t.size).length + t.size, 0) := by
    rw [List.append_assoc]
    unfold rdT
    simp only [hr]
    rw [if_neg (by decide), if_neg (by simp), if_neg (by omega), if_neg (by simp [sb_length])]
    simp [← sb_length]
   rw [someR, if_neg (by decide), if_pos rfl, hT]
   simp [bs_sb, sb_length, Nat.add_comm]
 · obtain rfl : (3 : Int) = k := by rcases hk with h | h; · simp at h
                                    · exact h
   cases b <;> simp [layV, firstR, someR]
theorem lay_inj {v v' : Val} {k : Int} (h : validN v = 0) (h' : validN v' = 0) (hn : inI v.n) (hn' : inI v'.n) (hk : v.k = 0 ∨ v.k = k) (hk' : v'.k = 0 ∨ v'.k = k) {r r' : List Nat} (e : layV v ++ r = layV v' ++ r') : v = v' ∧ r = r' := by
 have h1 := first_lay h hn hk r
 have h2 := first_lay h' hn' hk' r'
 rw [e, h2] at h1
 simp only [Prod.mk.injEq] at h1
 obtain ⟨rfl, _, _⟩ := h1
 exact ⟨rfl, List.append_cancel_left e⟩
theorem row_inj : ∀ (cs : List Col) (a b : List Val), a.length = cs.length → b.length = cs.length → chkZ cs a = 0 → chkZ cs b = 0 → (∀ v ∈ a, inI v.n) → (∀ v ∈ b, inI v.n) → rowB a = rowB b → a = b
 | [], a, b, ha, hb, _, _, _, _, _ => by
   rw [List.eq_nil_of_length_eq_zero ha, List.eq_nil_of_length_eq_zero hb]
 | c :: cs, [], _, ha, _, _, _, _, _, _ => by simp at ha
 | c :: cs, _ :: _, [], _, hb, _, _, _, _, _ => by simp at hb
 | c :: cs, v :: a, v' :: b, ha, hb, hca, hcb, hna, hnb, e => by
   have f1 := fit_valid (chkZ_zero _ _ hca 0 (by simp) (by simp))
   have f2 := fit_valid (chkZ_zero _ _ hcb 0 (by simp) (by simp))
   simp only [List.getElem_cons_zero] at f1 f2
   have z1 := chkZ_zero _ _ hca 0 (by simp) (by simp)
   have z2 := chkZ_zero _ _ hcb 0 (by simp) (by simp)
   simp only [List.getElem_cons_zero] at z1 z2
   rw [chkZ, z1, if_neg (by simp)] at hca
   rw [chkZ, z2, if_neg (by simp)] at hcb
   rw [rowB_cons, rowB_cons] at e
   obtain ⟨rfl, e2⟩ := lay_inj f1.1 f2.1 (hna v List.mem_cons_self) (hnb v' List.mem_cons_self) f1.2 f2.2 e
   rw [row_inj cs a b (by simpa using ha) (by simpa using hb) hca hcb (fun x hx => hna x (List.mem_cons_of_mem _ hx)) (fun x hx => hnb x (List.mem_cons_of_mem _ hx)) e2]
end Go.Proofs.YtalmanfjiblhcaaGreat.Rw
