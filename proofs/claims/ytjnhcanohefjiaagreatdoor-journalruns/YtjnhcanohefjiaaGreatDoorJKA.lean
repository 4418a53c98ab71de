/- What Go's bits.Len64 does: the library's own contract, laid at this program's numbers; How bytes lie in memory; the walks of pack.Len, withRoom, lay, AppendUint, and of the law's twin; The walks of pack.withRoom, lay, AppendUint, and of the law's twin; The walks of pack.lay, AppendUint, AppendInt, AppendText; The walks of pack.AppendUint, AppendInt, AppendText; The walks of pack.canEnd, Uint. -/
import Derived.Shelf.Strconv.Itoa0
import Derived.Test.YtjnhcanohefjiaaGreatDoorProg
import Derived.Test.YtjnhcanohefjiaaGreatDoorChecked
import Derived.Test.YtjnhcanohefjiaaGreatDoorJPA
import Derived.WalkKit
import Derived.WalkSpells
import Derived.WalkLawsBesides
import Derived.OwnWalk
import Derived.Laws.BytesArg
import Derived.Lib.AppendStr
import Derived.Lib.QuietBelow
import Derived.Lib.Hide
import Derived.Deep.RegionWith
import Derived.Test.YtjnhcanohefjiaaGreatDoorTMem
import Derived.Room.AppendFits
namespace Go.Proofs
open Go.Shelf
def Tryz.lays129_ren : Go.Shelf.Ren := ⟨fun | 129 => 72 | n => n, fun | 53 => 24 | 3 => 3 | 4 => 4 | 46 => 64 | 5 => 5 | 9 => 9 | n => n, fun | n => n⟩
theorem Tryz.lays129 : Go.Proofs.Lays.n129 Tryz.prog Tryz.lays129_ren := {
  mixed := by kernel_rfl
  f129 := Tryz.func72.trans (congrArg some (by kernel_rfl))
  t3 := Tryz.underlying3
  a3 := Tryz.isAgg3
  z3 := Tryz.sizeOf3
  v3 := Tryz.zeroValue3
  t4 := Tryz.underlying4
  a4 := Tryz.isAgg4
  z4 := Tryz.sizeOf4
  v4 := Tryz.zeroValue4
  t5 := Tryz.underlying5
  a5 := Tryz.isAgg5
  z5 := Tryz.sizeOf5
  v5 := Tryz.zeroValue5
  t9 := Tryz.underlying9
  a9 := Tryz.isAgg9
  z9 := Tryz.sizeOf9
  v9 := Tryz.zeroValue9
  t46 := Tryz.underlying64
  a46 := Tryz.isAgg64
  z46 := Tryz.sizeOf64
  v46 := Tryz.zeroValue64
  t53 := Tryz.underlying24
  a53 := Tryz.isAgg24
  z53 := Tryz.sizeOf24
  v53 := Tryz.zeroValue24 }
theorem Tryz.bits_Len64 (x : Int) (w : World) (h0 : 0 ≤ x) (h1 : x ≤ 18446744073709551615) :
    Calls Tryz.prog 72 #[.int .u64 x] w fun e w' => e = .returned (.int .i64 (Lib.bitLen x.toNat)) ∧ w' = w := Any.bits_Len64 Tryz.lays129 x w h0 h1
end Go.Proofs

namespace Go.Proofs.YtjnhcanohefjiaaGreatDoor
open Go.RowKit Go.Sort

set_option maxHeartbeats 400000 in
theorem len_ (n : Nat) (w : World) (hn : n < 18446744073709551616) :
    Calls Tryz.prog 47 #[.int .u64 n] w fun e w' => e = .returned (.int .i64 (enc n).length) ∧ w' = w := by
  have hl := enc_length n hn
  have hb := Lib.bitLen_le n 64 (by omega) (by omega)
  have H := Tryz.bits_Len64 n w (by omega) (by omega)
  rw [Int.toNat_natCast] at H
  generalize Lib.bitLen n = k at *
  generalize (enc n).length = m at *
  have H' := Lib.hid H
  clear H
  go_enter Tryz.func47, Tryz.ntmps47
  go_wp2_with fail
  refine H'.out.mono ?_
  rintro e w1 ⟨rfl, rfl⟩
  go_wp2
  go_ret
  exact ⟨ret_int (by omega), rfl⟩
end Go.Proofs.YtjnhcanohefjiaaGreatDoor

namespace Go.Proofs.YtjnhcanohefjiaaGreatDoor
open Go.RowKit Go.Sort

set_option maxHeartbeats 1000000 in
theorem room_ (a : Option Addr) (xs : List Nat) (c k : Nat) (w : World) (h : BytesIn w a xs) (hc : a = none → c = 0) (hn : xs.length + k ≤ 281474976710656) :
    Calls Tryz.prog 90 #[.slice a xs.length c, .int .i64 k] w fun e w' => e = .returned (.slice (some ⟨w.heap.size, 0, none⟩) xs.length (xs.length + k)) ∧ Own w' w.heap.size (.slice (some ⟨w.heap.size, 0, none⟩) xs.length (xs.length + k)) xs ∧ Below w.heap.size w w' := by
  obtain ⟨i0, hi, hz0, hz1, hz2⟩ := info_parts infoB
  have HB := Lib.hid h
  have hvl := vals_len xs
  cases a with
  | none =>
    obtain rfl := bytes_none h
    obtain rfl := hc rfl
    clear h
    simp only [List.length_nil, Nat.zero_add] at hn ⊢
    go_enter Tryz.func90, Tryz.ntmps90
    go_wp2_with (first
      | (at_make; refine wpList_make_own _ rfl _ _ _ rfl w.heap.size 5 i0 _ 1 Tryz.underlying53 hi hz0 hz1 .i64 .i64 k k rfl rfl rfl (by rw [hz2]; omega) (by unfold maxLen; omega) (Nat.le_refl _) ?_; intro w1 hown hgrow)
      | go_in)
    have hb := (Below.refl w.heap.size w).grown hgrow (Nat.le_refl _) (fun k hk => by cases hk)
    go_ret
    exact ⟨rfl, hown, hb⟩
  | some ad =>
    generalize hL : xs.length = n at *
    clear h hc
    go_enter Tryz.func90, Tryz.ntmps90
    go_wp2_with (first
      | (at_make; refine wpList_make_own _ rfl _ _ _ rfl w.heap.size 5 i0 _ 1 Tryz.underlying53 hi hz0 hz1 .i64 .i64 (n + k) (n + k) rfl rfl (by simp) (by rw [hz2]; omega) (by unfold maxLen; omega) (Nat.le_refl _) ?_
         intro w1 hown hgrow
         have HO := Lib.hid hown
         have hb := (Below.refl w.heap.size w).grown hgrow (Nat.le_refl _) (fun k hk => by cases hk)
         clear hown hgrow)
      | (at_builtin; refine wpList_append_fits _ rfl _ _ 53 rfl w.heap.size 5 i0 1 Tryz.underlying53 hi hz1 w.heap.size 0 (n + k) [] rfl HO.out ad n c (vals xs) rfl (by omega) (HB.out.on hb).news (vals_one xs) (by omega) ?_
         intro w2 hown hgrow2
         have HO2 := Lib.hid (own_mk hL hown)
         have hb2 := hb.grown hgrow2 hb.size (fun k hk => by cases hk; exact Nat.le_refl _)
         clear hown hgrow2)
      | go_in)
    go_ret
    exact ⟨rfl, HO2.out, hb2⟩
end Go.Proofs.YtjnhcanohefjiaaGreatDoor

namespace Go.Proofs.YtjnhcanohefjiaaGreatDoor
open Go.RowKit Go.Sort

theorem one_cell (w : World) (v : Value) (t : TypeId) : ∀ j u, [v][j]? = some u → (w.alloc (.cells #[v] t)).cell? ((⟨w.heap.size, 0, none⟩ : Addr).add j) = some u := by
  intro j u hj
  cases j with
  | zero => simp at hj; subst hj; simp [go_sem, Addr.add_lit]
  | succ j => simp at hj
theorem one_one (k : IntKind) (x : Int) : ∀ u ∈ [Value.int k x], u.oneCell' = true := by
  intro u hu
  simp at hu
  subst hu
  rfl
theorem or128_all : ∀ x : Fin 256, bits .or .u8 (x.val : Int) 128 = ((x.val % 128 + 128 : Nat) : Int) := by decide +kernel
theorem or128 (m : Nat) : bits .or .u8 ((m : Int) % 256) 128 = ((m % 128 + 128 : Nat) : Int) := by
  have h := or128_all ⟨m % 256, Nat.mod_lt _ (by decide)⟩
  simp only [Int.natCast_emod] at h
  rw [show ((m : Int) % 256) = ((m : Int) % ((256 : Nat) : Int)) from rfl, h]
  omega
theorem own_snoc {w : World} {base g c n y : Nat} {xs : List Nat} (hn : xs.length = n) (h : w.ownsRow base 5 1 (.slice (some ⟨g, 0, none⟩) (n + 1) c) (n + 1) (vals xs ++ [.int .u8 (y : Int)])) : Own w base (.slice (some ⟨g, 0, none⟩) (n + 1) c) (xs ++ [y]) := by
  subst hn
  unfold Own
  rw [← vals_append, List.length_append]
  exact h
set_option maxRecDepth 100000 in
set_option maxHeartbeats 1000000 in
theorem lay_ (g cap base n : Nat) (xs : List Nat) (w : World) (h : Own w base (.slice (some ⟨g, 0, none⟩) xs.length cap) xs) (hn : n < 18446744073709551616) (hr : xs.length + (enc n).length ≤ cap) (hbase : base ≤ w.heap.size) :
    Calls Tryz.prog 89 #[.slice (some ⟨g, 0, none⟩) xs.length cap, .int .u64 n] w fun e w' => e = .returned (.slice (some ⟨g, 0, none⟩) (xs ++ enc n).length cap) ∧ Own w' base (.slice (some ⟨g, 0, none⟩) (xs ++ enc n).length cap) (xs ++ enc n) ∧ Below base w w' := by
  obtain ⟨i0, hi, hz0, hz1, hz2⟩ := info_parts infoB
  obtain ⟨zs, hzs⟩ : ∃ zs, zs = xs ++ enc n := ⟨_, rfl⟩
  have hzl : zs.length ≤ cap := by rw [hzs, List.length_append]; exact hr
  have HZ := Lib.hid hzs
  have HO := Lib.hid h
  rw [← hzs]
  clear h hr hzs
  generalize hL : xs.length = n0 at *
  go_enter Tryz.func89, Tryz.ntmps89
  go_wp2_with fail
  go_loopw [0, 1] (fun ov nv wr => ∃ (m : Nat) (ys : List Nat), nv = .int .u64 m ∧ ov = .slice (some ⟨g, 0, none⟩) ys.length cap ∧ Own wr base ov ys ∧ zs = ys ++ enc m ∧ Below base w wr ∧ m < 18446744073709551616) (fun _ nv _ => (intOf nv).toNat)
  case atStart => exact ⟨n, xs, rfl, by rw [hL], HO.out, HZ.out, Below.refl _ _, hn⟩
  case round =>
    obtain ⟨m, ys, rfl, rfl, hown, he, hb, hm⟩ := hrel
    have hrow : wr.ownsRow base 5 1 (.slice (some ⟨g, 0, none⟩) ys.length cap) ys.length (vals ys) := hown
    have HO1 := Lib.hid hrow
    have HE := Lib.hid he
    have hlen : ys.length + (enc m).length ≤ cap := by rw [← List.length_append, ← he]; exact hzl
    have hpos := enc_pos m
    have hg := (World.ownsRow.lt hown g rfl).1
    have hsz := hb.size
    obtain ⟨y, hy0⟩ : ∃ y, y = m % 128 + 128 := ⟨_, rfl⟩
    have h128 : bits .or .u8 ((m : Int) % 256) 128 = (y : Int) := by rw [hy0]; exact or128 m
    have HY := Lib.hid hy0
    clear hy0
    clear hown he HZ HO hrow
    by_cases hlt : 128 ≤ m
    · have e2 : zs = (ys ++ [y]) ++ enc (m / 128) := by rw [HE.out, HY.out, enc_ge hlt, List.append_assoc]; rfl
      have HE2 := Lib.hid e2
      clear e2 HE
      generalize hy : ys.length = yl at *
      go_wp2_with (first
        | (at_builtin; refine wpList_append_fits _ rfl _ _ 53 rfl base 5 i0 1 Tryz.underlying53 hi hz1 g yl cap (vals ys) rfl (HO1.out.alloc _) ⟨wr.heap.size, 0, none⟩ 1 1 [.int .u8 (y : Int)] rfl rfl (one_cell _ _ _) (one_one _ _) (by omega) ?_
           intro w2 hown hgrow2
           have HO2 : Hid (Own w2 base (.slice (some ⟨g, 0, none⟩) (yl + 1) cap) (ys ++ [y])) := Lib.hid (own_snoc hy hown)
           have hb2 := (hb.alloc (by omega) _).grown hgrow2 (by simp; omega) (fun k hk => by cases hk; exact hg)
           clear hown hgrow2)
        | go_in)
      go_roundw
      case rel => exact ⟨m / 128, ys ++ [y], by go_num, by rw [List.length_append, hy]; rfl, HO2.out, HE2.out, hb2, by omega⟩
      case measure => simp [intOf]; omega
    · have e2 : zs = ys ++ [m] := by rw [HE.out, enc_lt (by omega)]
      have HE2 := Lib.hid e2
      have h256 : (m : Int) % 256 = m := by omega
      clear e2 HE
      generalize hy : ys.length = yl at *
      go_wp2_with (first
        | (at_builtin; refine wpList_append_fits _ rfl _ _ 53 rfl base 5 i0 1 Tryz.underlying53 hi hz1 g yl cap (vals ys) rfl (HO1.out.alloc _) ⟨wr.heap.size, 0, none⟩ 1 1 [.int .u8 (m : Int)] rfl rfl (one_cell _ _ _) (one_one _ _) (by omega) ?_
           intro w2 hown hgrow2
           have HO2 : Hid (Own w2 base (.slice (some ⟨g, 0, none⟩) (yl + 1) cap) (ys ++ [m])) := Lib.hid (own_snoc hy hown)
           have hb2 := (hb.alloc (by omega) _).grown hgrow2 (by simp; omega) (fun k hk => by cases hk; exact hg)
           clear hown hgrow2)
        | go_in)
      go_ret
      have e3 : zs.length = yl + 1 := by rw [HE2.out, List.length_append, hy]; rfl
      rw [e3, HE2.out]
      exact ⟨rfl, HO2.out, hb2⟩
end Go.Proofs.YtjnhcanohefjiaaGreatDoor

namespace Go.Proofs.YtjnhcanohefjiaaGreatDoor
open Go.RowKit Go.Sort

/-- What a call that lays something hands back: a row of its own. -/
def Laid (w : World) (xs : List Nat) (e : Ending) (w' : World) : Prop :=
  ∃ g c, e = .returned (.slice (some ⟨g, 0, none⟩) xs.length c) ∧ Own w' w.heap.size (.slice (some ⟨g, 0, none⟩) xs.length c) xs ∧ Below w.heap.size w w'
set_option maxRecDepth 100000 in
set_option maxHeartbeats 1000000 in
theorem appU_ (a : Option Addr) (xs : List Nat) (c n l : Nat) (w : World) (hl : xs.length = l) (h : BytesIn w a xs) (hc : a = none → c = 0) (hn : n < 18446744073709551616) (hlim : xs.length ≤ 281474976710646) :
    Calls Tryz.prog 70 #[.slice a l c, .int .u64 n] w (Laid w (xs ++ enc n)) := by
  subst hl
  have hle := enc_le10 n hn
  have HL := Lib.hid (len_ n w hn)
  have HR := Lib.hid (room_ a xs c (enc n).length w h hc (by omega))
  have HY : Hid (∀ W g cap, Own W w.heap.size (.slice (some ⟨g, 0, none⟩) xs.length cap) xs → xs.length + (enc n).length ≤ cap → Below w.heap.size w W → Calls Tryz.prog 89 #[.slice (some ⟨g, 0, none⟩) xs.length cap, .int .u64 n] W fun e w' => e = .returned (.slice (some ⟨g, 0, none⟩) (xs ++ enc n).length cap) ∧ Own w' w.heap.size (.slice (some ⟨g, 0, none⟩) (xs ++ enc n).length cap) (xs ++ enc n) ∧ Below w.heap.size W w') :=
    fun W g cap h1 h2 h3 => lay_ g cap w.heap.size n xs W h1 hn h2 h3.size
  unfold Laid
  generalize hz : xs ++ enc n = zs at *
  generalize (enc n).length = k at *
  generalize xs.length = m at *
  clear h hc hz
  go_enter Tryz.func70, Tryz.ntmps70
  go_wp2_with fail
  refine HL.out.mono ?_
  rintro e w1 ⟨rfl, rfl⟩
  go_wp2_with fail
  refine HR.out.mono ?_
  rintro e w2 ⟨rfl, hO, hB⟩
  go_wp2_with fail
  refine (HY.out w2 _ _ hO (Nat.le_refl _) hB).mono ?_
  rintro e w3 ⟨rfl, hO3, hB3⟩
  go_wp2_with fail
  go_ret
  exact ⟨_, _, rfl, hO3, hB.trans hB3⟩
end Go.Proofs.YtjnhcanohefjiaaGreatDoor

namespace Go.Proofs.YtjnhcanohefjiaaGreatDoor
open Go.RowKit Go.Sort

/-- May it be the last one? -/
def canB (y i : Nat) : Bool := !(decide ((i ≠ 0 ∧ y = 0) ∨ (i = 9 ∧ 1 < y)))
set_option maxHeartbeats 400000 in
theorem canEnd_ (y i : Nat) (w : World) (hy : y < 256) (hi : i < 10) :
    Calls Tryz.prog 114 #[.int .u8 y, .int .i64 i] w fun e w' => e = .returned (.bool (canB y i)) ∧ w' = w := by
  by_cases h0 : i = 0
  · subst h0
    go_enter Tryz.func114, Tryz.ntmps114
    go_wp2
    go_ret
    exact ⟨ret_bool (by simp [canB]), rfl⟩
  · go_enter Tryz.func114, Tryz.ntmps114
    go_wp2
    all_goals (go_ret; refine ⟨ret_bool (Bool.eq_iff_iff.2 ?_), rfl⟩; simp [canB]; omega)
theorem andNot128_all : ∀ x : Fin 256, bits .andNot .u8 (x.val : Int) 128 = ((x.val % 128 : Nat) : Int) := by decide +kernel
theorem andNot128 (y : Nat) (h : y < 256) : bits .andNot .u8 (y : Int) 128 = ((y % 128 : Nat) : Int) := andNot128_all ⟨y, h⟩
theorem and128_all : ∀ x : Fin 256, bits .and .u8 (x.val : Int) 128 = if 128 ≤ x.val then 128 else 0 := by decide +kernel
theorem and128 (y : Nat) (h : y < 256) : bits .and .u8 (y : Int) 128 = if 128 ≤ y then 128 else 0 := and128_all ⟨y, h⟩
/-- Seven bits more. -/
theorem step_bits (X y k : Nat) (hy : y < 256) (hk : k < 10) (hX : X < 128 ^ k) : ∃ N : Nat, bits .or .u64 (X : Int) (IntKind.u64.wrap (IntKind.u64.wrap (bits .andNot .u8 (y : Int) 128) * 2 ^ (7 * k))) = (N : Int) ∧ ((k < 9 ∨ y % 128 ≤ 1) → N = X + y % 128 * 128 ^ k) := by
  have hp : (128 : Nat) ^ k = 2 ^ (7 * k) := by rw [Nat.pow_mul]
  have h9 : (2 : Nat) ^ (7 * k) ≤ 2 ^ 63 := Nat.pow_le_pow_right (by decide) (by omega)
  rw [andNot128 y hy, IntKind.wrap_u64, IntKind.wrap_u64]
  have e1 : (((y % 128 : Nat) : Int) % 18446744073709551616 * 2 ^ (7 * k)) % 18446744073709551616 = ((y % 128 * 2 ^ (7 * k) % 18446744073709551616 : Nat) : Int) := by
    have : ((y % 128 : Nat) : Int) % 18446744073709551616 = ((y % 128 : Nat) : Int) := by omega
    rw [this]
    generalize y % 128 = z
    rw [Int.natCast_emod, Int.natCast_mul, Int.natCast_pow]
    rfl
  rw [e1, (bits_nat .u64 64 (by decide) wraps_u64 X (y % 128 * 2 ^ (7 * k) % 18446744073709551616) (by rw [hp] at hX; omega) (by omega)).2]
  refine ⟨_, rfl, fun hh => ?_⟩
  have hlt : y % 128 * 2 ^ (7 * k) < 18446744073709551616 := by
    rcases hh with hh | hh
    · have h8 : (2 : Nat) ^ (7 * k) ≤ 2 ^ 56 := Nat.pow_le_pow_right (by decide) (by omega)
      have : y % 128 * 2 ^ (7 * k) ≤ 127 * 2 ^ 56 := Nat.mul_le_mul (by omega) h8
      omega
    · have : y % 128 * 2 ^ (7 * k) ≤ 1 * 2 ^ 63 := Nat.mul_le_mul hh h9
      omega
  rw [Nat.mod_eq_of_lt hlt, hp, Nat.or_comm, Nat.mul_comm (y % 128)]
  rw [hp] at hX
  rw [← Nat.two_pow_add_eq_or_of_lt hX, Nat.add_comm]
set_option maxRecDepth 100000 in
set_option maxHeartbeats 2000000 in
theorem uint_ (a : Option Addr) (xs : List Nat) (c : Nat) (w : World) (h : BytesIn w a xs) (hb : ∀ x ∈ xs, x < 256) (hlim : xs.length ≤ 9223372036854775807) :
    Calls Tryz.prog 101 #[.slice a xs.length c] w fun e w' => e = .returned (.tuple #[.int .u64 (rdU xs).1, .int .i64 (rdU xs).2.1, errV (rdU xs).2.2]) ∧ w' = w := by
  have HB := Lib.hid h
  have HA := Lib.hid hb
  obtain ⟨R, hR⟩ : ∃ R, R = rdU xs := ⟨_, rfl⟩
  rw [← hR]
  have HR := Lib.hid hR
  clear h hb hR
  generalize hL : xs.length = len at *
  have HLen := Lib.hid hL
  clear hL
  go_enter Tryz.func101, Tryz.ntmps101
  go_wp2_with fail
  go_loopw [5, 7] (fun nv iv wr => ∃ (k X : Nat), k ≤ 10 ∧ iv = .int .i64 k ∧ nv = .int .u64 X ∧ wr = w ∧ (k < 10 → R = dec X k (xs.drop k) ∧ k ≤ len ∧ X < 128 ^ k) ∧ (k = 10 → R = (0, 0, 3))) (fun _ iv _ => 10 - (intOf iv).toNat)
  case atStart => exact ⟨0, 0, by omega, rfl, rfl, rfl, fun _ => ⟨HR.out, by omega, by simp⟩, fun hh => by omega⟩
  case round =>
    obtain ⟨k, X, hk, rfl, rfl, rfl, h1, h2⟩ := hrel
    have H1 := Lib.hid h1
    have H2 := Lib.hid h2
    clear h1 h2
    by_cases hk10 : k < 10
    · obtain ⟨hd, hkl, hX⟩ := H1.out hk10
      by_cases hend : k = len
      · have e : R = (0, 0, 12) := by
          rw [hd, List.drop_eq_nil_of_le (by rw [HLen.out, hend]; exact Nat.le_refl _)]
          unfold dec
          rw [if_neg (by omega)]
        subst e
        clear hd H1 H2
        go_wp2_with fail
        go_ret3
        exact ⟨rfl, rfl⟩
      · have hlt : k < xs.length := by rw [HLen.out]; omega
        obtain ⟨y, hy⟩ : ∃ y, y = xs.getD k 0 := ⟨_, rfl⟩
        obtain ⟨b, o, rfl, hc⟩ := HB.out k hlt
        rw [← hy] at hc
        have hdrop : xs.drop k = y :: xs.drop (k + 1) := by
          rw [List.drop_eq_getElem_cons hlt, hy, List.getD_eq_getElem?_getD, List.getElem?_eq_getElem hlt]
          rfl
        have hy256 : y < 256 := HA.out y (by rw [hy, List.getD_eq_getElem?_getD, List.getElem?_eq_getElem hlt]; exact List.getElem_mem hlt)
        rw [hdrop] at hd
        unfold dec at hd
        rw [if_neg (by omega)] at hd
        obtain ⟨N, hN, hNe⟩ := step_bits X y k hy256 hk10 hX
        have hpw : (128 : Nat) ^ (k + 1) = 128 ^ k * 128 := Nat.pow_succ ..
        have hand := and128 y hy256
        have HC := Lib.hid (canEnd_ y k wr hy256 hk10)
        have hki : (0 : Int) ≤ (k : Int) := by omega
        have hkl2 : (k : Int) < (len : Int) := by omega
        by_cases hc128 : 128 ≤ y
        · rw [if_pos hc128] at hand hd
          have hfin : ∃ X' : Nat, (N : Int) = (X' : Nat) ∧ (k + 1 < 10 → R = dec X' (k + 1) (xs.drop (k + 1)) ∧ k + 1 ≤ len ∧ X' < 128 ^ (k + 1)) ∧ (k + 1 = 10 → R = (0, 0, 3)) := by
            refine ⟨N, rfl, fun h9 => ?_, fun h10 => ?_⟩
            · have e := hNe (.inl (by omega))
              rw [show y % 128 = y - 128 by omega] at e
              refine ⟨by rw [hd, e], by omega, ?_⟩
              have : (y - 128) * 128 ^ k ≤ 127 * 128 ^ k := Nat.mul_le_mul_right _ (by omega)
              rw [e, hpw]
              omega
            · rw [hd]
              obtain rfl : k = 9 := by omega
              unfold dec
              cases List.drop (9 + 1) xs <;> rfl
          have HF := Lib.hid hfin
          clear hfin hd hX hdrop hy hlt H1 H2 hNe hpw HC
          go_wp2_with fail
          go_roundw
          case rel =>
            obtain ⟨X', e1, e2, e3⟩ := HF.out
            exact ⟨k + 1, X', by omega, by go_num, by rw [e1], trivial, e2, e3⟩
          case measure => simp [intOf]; omega
        · rw [if_neg hc128] at hand hd
          have hfin : (canB y k = false → R = (0, 0, 3)) ∧ (canB y k = true → R = (N, k + 1, 0)) := by
            refine ⟨fun hh => ?_, fun hh => ?_⟩
            · simp only [canB, Bool.not_eq_false', decide_eq_true_eq] at hh
              rw [hd, if_pos hh]
            · simp only [canB, Bool.not_eq_true', decide_eq_false_iff_not] at hh
              rw [hd, if_neg hh, hNe (by omega), Nat.mod_eq_of_lt (by omega)]
          have HF := Lib.hid hfin
          generalize canB y k = cb at *
          clear hfin hd hX hdrop hy hlt H1 H2 hNe hpw
          go_wp2_with fail
          refine HC.out.mono ?_
          rintro e w1 ⟨rfl, rfl⟩
          cases cb
          · have e := HF.out.1 rfl
            subst e
            clear HF
            go_wp2_with fail
            go_ret3
            exact ⟨rfl, rfl⟩
          · have e := HF.out.2 rfl
            subst e
            clear HF
            go_wp2_with fail
            go_ret3
            exact ⟨rfl, rfl⟩
    · obtain rfl : k = 10 := by omega
      have e := H2.out rfl
      subst e
      clear H1 H2
      go_wp2_with fail
      go_ret3
      exact ⟨rfl, rfl⟩
theorem BytesIn.part {w : World} {b o k n : Nat} {xs : List Nat} (h : BytesIn w (some ⟨b, o, none⟩) xs) (hk : k + n ≤ xs.length) : BytesIn w (some ⟨b, o + k, none⟩) ((xs.drop k).take n) := by
  intro i hi
  simp only [List.length_take, List.length_drop] at hi
  obtain ⟨b', o', e, h1⟩ := h (k + i) (by omega)
  cases e
  refine ⟨b, o + k, rfl, ?_⟩
  rw [Nat.add_assoc, h1]
  congr 2
  rw [List.getD_eq_getElem?_getD, List.getD_eq_getElem?_getD, List.getElem?_take, if_pos (by omega), List.getElem?_drop]
end Go.Proofs.YtjnhcanohefjiaaGreatDoor
