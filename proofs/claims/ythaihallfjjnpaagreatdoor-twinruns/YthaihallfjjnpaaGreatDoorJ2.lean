/- What Go's bits.Len64 does: the library's own contract, laid at this program's numbers; How bytes lie in memory; the walks of pack.Len, withRoom, lay, AppendUint, and of the law's twin; The walks of pack.withRoom, lay, AppendUint, and of the law's twin; The walks of pack.lay, AppendUint, AppendInt, AppendText; The walks of pack.AppendUint, AppendInt, AppendText; The walks of pack.canEnd, Uint; The walks of the document's Uints, Ints, Texts; The walks of the document's Uint, Int, Text; The walks of the document's Int and Text. -/
import Derived.Shelf.Strconv.Itoa0
import Derived.Test.YthaihallfjjnpaaGreatDoorProg
import Derived.Test.YthaihallfjjnpaaGreatDoorChecked
import Derived.Test.YthaihallfjjnpaaGreatDoorJ0
import Derived.WalkKit
import Derived.WalkSpells
import Derived.WalkLawsBesides
import Derived.OwnWalk
import Derived.Laws.BytesArg
import Derived.Lib.AppendStr
import Derived.Lib.QuietBelow
import Derived.Lib.Hide
import Derived.Deep.RegionWith
import Derived.Test.YthaihallfjjnpaaGreatDoorTMem
import Derived.Room.AppendFits
namespace Go.Proofs
open Go.Shelf
def Tryz.lays129_ren : Go.Shelf.Ren := ⟨fun | 129 => 91 | n => n, fun | 53 => 41 | 3 => 3 | 4 => 4 | 46 => 60 | 5 => 5 | 9 => 9 | n => n, fun | n => n⟩
theorem Tryz.lays129 : Go.Proofs.Lays.n129 Tryz.prog Tryz.lays129_ren := {
  mixed := by kernel_rfl
  f129 := Tryz.func91.trans (congrArg some (by kernel_rfl))
  t3 := Tryz.underlying3
  a3 := Tryz.isAgg3
  z3 := Tryz.sizeOf3
  v3 := Tryz.zeroValue3
  t4 := Tryz.underlying4
  a4 := Tryz.isAgg4
  z4 := Tryz.sizeOf4
  v4 := Tryz.zeroValue4
  t5 := Tryz.underlying5
  a5 := Tryz.isAgg5
  z5 := Tryz.sizeOf5
  v5 := Tryz.zeroValue5
  t9 := Tryz.underlying9
  a9 := Tryz.isAgg9
  z9 := Tryz.sizeOf9
  v9 := Tryz.zeroValue9
  t46 := Tryz.underlying60
  a46 := Tryz.isAgg60
  z46 := Tryz.sizeOf60
  v46 := Tryz.zeroValue60
  t53 := Tryz.underlying41
  a53 := Tryz.isAgg41
  z53 := Tryz.sizeOf41
  v53 := Tryz.zeroValue41 }
theorem Tryz.bits_Len64 (x : Int) (w : World) (h0 : 0 ≤ x) (h1 : x ≤ 18446744073709551615) :
    Calls Tryz.prog 91 #[.int .u64 x] w fun e w' => e = .returned (.int .i64 (Lib.bitLen x.toNat)) ∧ w' = w := Any.bits_Len64 Tryz.lays129 x w h0 h1
end Go.Proofs

namespace Go.Proofs.YthaihallfjjnpaaGreatDoor
open Go.RowKit Go.Sort

set_option maxHeartbeats 400000 in
theorem len_ (n : Nat) (w : World) (hn : n < 18446744073709551616) :
    Calls Tryz.prog 82 #[.int .u64 n] w fun e w' => e = .returned (.int .i64 (enc n).length) ∧ w' = w := by
  have hl := enc_length n hn
  have hb := Lib.bitLen_le n 64 (by omega) (by omega)
  have H := Tryz.bits_Len64 n w (by omega) (by omega)
  rw [Int.toNat_natCast] at H
  generalize Lib.bitLen n = k at *
  generalize (enc n).length = m at *
  have H' := Lib.hid H
  clear H
  go_enter Tryz.func82, Tryz.ntmps82
  go_wp2_with fail
  refine H'.out.mono ?_
  rintro e w1 ⟨rfl, rfl⟩
  go_wp2
  go_ret
  exact ⟨ret_int (by omega), rfl⟩
theorem not64 (n : Int) (h0 : -9223372036854775808 ≤ n) (h1 : n ≤ 9223372036854775807) : bits .xor .i64 (-1) n = -n - 1 := by
  show IntKind.i64.wrap ((BitVec.ofInt 64 (-1) ^^^ BitVec.ofInt 64 n).toNat : Int) = _
  rw [show BitVec.ofInt 64 (-1) = BitVec.allOnes 64 by decide, BitVec.allOnes_xor, BitVec.toNat_not, BitVec.toNat_ofInt, IntKind.wrap_i64]
  omega
end Go.Proofs.YthaihallfjjnpaaGreatDoor

namespace Go.Proofs.YthaihallfjjnpaaGreatDoor
open Go.RowKit Go.Sort

set_option maxHeartbeats 1000000 in
theorem room_ (a : Option Addr) (xs : List Nat) (c k : Nat) (w : World) (h : BytesIn w a xs) (hc : a = none → c = 0) (hn : xs.length + k ≤ 281474976710656) :
    Calls Tryz.prog 81 #[.slice a xs.length c, .int .i64 k] w fun e w' => e = .returned (.slice (some ⟨w.heap.size, 0, none⟩) xs.length (xs.length + k)) ∧ Own w' w.heap.size (.slice (some ⟨w.heap.size, 0, none⟩) xs.length (xs.length + k)) xs ∧ Below w.heap.size w w' := by
  obtain ⟨i0, hi, hz0, hz1, hz2⟩ := info_parts infoB
  have HB := Lib.hid h
  have hvl := vals_len xs
  cases a with
  | none =>
    obtain rfl := bytes_none h
    obtain rfl := hc rfl
    clear h
    simp only [List.length_nil, Nat.zero_add] at hn ⊢
    go_enter Tryz.func81, Tryz.ntmps81
    go_wp2_with (first
      | (at_make; refine wpList_make_own _ rfl _ _ _ rfl w.heap.size 5 i0 _ 1 Tryz.underlying37 hi hz0 hz1 .i64 .i64 k k rfl rfl rfl (by rw [hz2]; omega) (by unfold maxLen; omega) (Nat.le_refl _) ?_; intro w1 hown hgrow)
      | go_in)
    have hb := (Below.refl w.heap.size w).grown hgrow (Nat.le_refl _) (fun k hk => by cases hk)
    go_ret
    exact ⟨rfl, hown, hb⟩
  | some ad =>
    generalize hL : xs.length = n at *
    clear h hc
    go_enter Tryz.func81, Tryz.ntmps81
    go_wp2_with (first
      | (at_make; refine wpList_make_own _ rfl _ _ _ rfl w.heap.size 5 i0 _ 1 Tryz.underlying37 hi hz0 hz1 .i64 .i64 (n + k) (n + k) rfl rfl (by simp) (by rw [hz2]; omega) (by unfold maxLen; omega) (Nat.le_refl _) ?_
         intro w1 hown hgrow
         have HO := Lib.hid hown
         have hb := (Below.refl w.heap.size w).grown hgrow (Nat.le_refl _) (fun k hk => by cases hk)
         clear hown hgrow)
      | (at_builtin; refine wpList_append_fits _ rfl _ _ 37 rfl w.heap.size 5 i0 1 Tryz.underlying37 hi hz1 w.heap.size 0 (n + k) [] rfl HO.out ad n c (vals xs) rfl (by omega) (HB.out.on hb).news (vals_one xs) (by omega) ?_
         intro w2 hown hgrow2
         have HO2 := Lib.hid (own_mk hL hown)
         have hb2 := hb.grown hgrow2 hb.size (fun k hk => by cases hk; exact Nat.le_refl _)
         clear hown hgrow2)
      | go_in)
    go_ret
    exact ⟨rfl, HO2.out, hb2⟩
end Go.Proofs.YthaihallfjjnpaaGreatDoor

namespace Go.Proofs.YthaihallfjjnpaaGreatDoor
open Go.RowKit Go.Sort

theorem one_cell (w : World) (v : Value) (t : TypeId) : ∀ j u, [v][j]? = some u → (w.alloc (.cells #[v] t)).cell? ((⟨w.heap.size, 0, none⟩ : Addr).add j) = some u := by
  intro j u hj
  cases j with
  | zero => simp at hj; subst hj; simp [go_sem, Addr.add_lit]
  | succ j => simp at hj
theorem one_one (k : IntKind) (x : Int) : ∀ u ∈ [Value.int k x], u.oneCell' = true := by
  intro u hu
  simp at hu
  subst hu
  rfl
theorem or128_all : ∀ x : Fin 256, bits .or .u8 (x.val : Int) 128 = ((x.val % 128 + 128 : Nat) : Int) := by decide +kernel
theorem or128 (m : Nat) : bits .or .u8 ((m : Int) % 256) 128 = ((m % 128 + 128 : Nat) : Int) := by
  have h := or128_all ⟨m % 256, Nat.mod_lt _ (by decide)⟩
  simp only [Int.natCast_emod] at h
  rw [show ((m : Int) % 256) = ((m : Int) % ((256 : Nat) : Int)) from rfl, h]
  omega
theorem own_snoc {w : World} {base g c n y : Nat} {xs : List Nat} (hn : xs.length = n) (h : w.ownsRow base 5 1 (.slice (some ⟨g, 0, none⟩) (n + 1) c) (n + 1) (vals xs ++ [.int .u8 (y : Int)])) : Own w base (.slice (some ⟨g, 0, none⟩) (n + 1) c) (xs ++ [y]) := by
  subst hn
  unfold Own
  rw [← vals_append, List.length_append]
  exact h
set_option maxRecDepth 100000 in
set_option maxHeartbeats 1000000 in
theorem lay_ (g cap base n : Nat) (xs : List Nat) (w : World) (h : Own w base (.slice (some ⟨g, 0, none⟩) xs.length cap) xs) (hn : n < 18446744073709551616) (hr : xs.length + (enc n).length ≤ cap) (hbase : base ≤ w.heap.size) :
    Calls Tryz.prog 80 #[.slice (some ⟨g, 0, none⟩) xs.length cap, .int .u64 n] w fun e w' => e = .returned (.slice (some ⟨g, 0, none⟩) (xs ++ enc n).length cap) ∧ Own w' base (.slice (some ⟨g, 0, none⟩) (xs ++ enc n).length cap) (xs ++ enc n) ∧ Below base w w' := by
  obtain ⟨i0, hi, hz0, hz1, hz2⟩ := info_parts infoB
  obtain ⟨zs, hzs⟩ : ∃ zs, zs = xs ++ enc n := ⟨_, rfl⟩
  have hzl : zs.length ≤ cap := by rw [hzs, List.length_append]; exact hr
  have HZ := Lib.hid hzs
  have HO := Lib.hid h
  rw [← hzs]
  clear h hr hzs
  generalize hL : xs.length = n0 at *
  go_enter Tryz.func80, Tryz.ntmps80
  go_wp2_with fail
  go_loopw [0, 1] (fun ov nv wr => ∃ (m : Nat) (ys : List Nat), nv = .int .u64 m ∧ ov = .slice (some ⟨g, 0, none⟩) ys.length cap ∧ Own wr base ov ys ∧ zs = ys ++ enc m ∧ Below base w wr ∧ m < 18446744073709551616) (fun _ nv _ => (intOf nv).toNat)
  case atStart => exact ⟨n, xs, rfl, by rw [hL], HO.out, HZ.out, Below.refl _ _, hn⟩
  case round =>
    obtain ⟨m, ys, rfl, rfl, hown, he, hb, hm⟩ := hrel
    have hrow : wr.ownsRow base 5 1 (.slice (some ⟨g, 0, none⟩) ys.length cap) ys.length (vals ys) := hown
    have HO1 := Lib.hid hrow
    have HE := Lib.hid he
    have hlen : ys.length + (enc m).length ≤ cap := by rw [← List.length_append, ← he]; exact hzl
    have hpos := enc_pos m
    have hg := (World.ownsRow.lt hown g rfl).1
    have hsz := hb.size
    obtain ⟨y, hy0⟩ : ∃ y, y = m % 128 + 128 := ⟨_, rfl⟩
    have h128 : bits .or .u8 ((m : Int) % 256) 128 = (y : Int) := by rw [hy0]; exact or128 m
    have HY := Lib.hid hy0
    clear hy0
    clear hown he HZ HO hrow
    by_cases hlt : 128 ≤ m
    · have e2 : zs = (ys ++ [y]) ++ enc (m / 128) := by rw [HE.out, HY.out, enc_ge hlt, List.append_assoc]; rfl
      have HE2 := Lib.hid e2
      clear e2 HE
      generalize hy : ys.length = yl at *
      go_wp2_with (first
        | (at_builtin; refine wpList_append_fits _ rfl _ _ 37 rfl base 5 i0 1 Tryz.underlying37 hi hz1 g yl cap (vals ys) rfl (HO1.out.alloc _) ⟨wr.heap.size, 0, none⟩ 1 1 [.int .u8 (y : Int)] rfl rfl (one_cell _ _ _) (one_one _ _) (by omega) ?_
           intro w2 hown hgrow2
           have HO2 : Hid (Own w2 base (.slice (some ⟨g, 0, none⟩) (yl + 1) cap) (ys ++ [y])) := Lib.hid (own_snoc hy hown)
           have hb2 := (hb.alloc (by omega) _).grown hgrow2 (by simp; omega) (fun k hk => by cases hk; exact hg)
           clear hown hgrow2)
        | go_in)
      go_roundw
      case rel => exact ⟨m / 128, ys ++ [y], by go_num, by rw [List.length_append, hy]; rfl, HO2.out, HE2.out, hb2, by omega⟩
      case measure => simp [intOf]; omega
    · have e2 : zs = ys ++ [m] := by rw [HE.out, enc_lt (by omega)]
      have HE2 := Lib.hid e2
      have h256 : (m : Int) % 256 = m := by omega
      clear e2 HE
      generalize hy : ys.length = yl at *
      go_wp2_with (first
        | (at_builtin; refine wpList_append_fits _ rfl _ _ 37 rfl base 5 i0 1 Tryz.underlying37 hi hz1 g yl cap (vals ys) rfl (HO1.out.alloc _) ⟨wr.heap.size, 0, none⟩ 1 1 [.int .u8 (m : Int)] rfl rfl (one_cell _ _ _) (one_one _ _) (by omega) ?_
           intro w2 hown hgrow2
           have HO2 : Hid (Own w2 base (.slice (some ⟨g, 0, none⟩) (yl + 1) cap) (ys ++ [m])) := Lib.hid (own_snoc hy hown)
           have hb2 := (hb.alloc (by omega) _).grown hgrow2 (by simp; omega) (fun k hk => by cases hk; exact hg)
           clear hown hgrow2)
        | go_in)
      go_ret
      have e3 : zs.length = yl + 1 := by rw [HE2.out, List.length_append, hy]; rfl
      rw [e3, HE2.out]
      exact ⟨rfl, HO2.out, hb2⟩
end Go.Proofs.YthaihallfjjnpaaGreatDoor

namespace Go.Proofs.YthaihallfjjnpaaGreatDoor
open Go.RowKit Go.Sort

/-- What a call that lays something hands back: a row of its own. -/
def Laid (w : World) (xs : List Nat) (e : Ending) (w' : World) : Prop :=
  ∃ g c, e = .returned (.slice (some ⟨g, 0, none⟩) xs.length c) ∧ Own w' w.heap.size (.slice (some ⟨g, 0, none⟩) xs.length c) xs ∧ Below w.heap.size w w'
set_option maxRecDepth 100000 in
set_option maxHeartbeats 1000000 in
theorem appU_ (a : Option Addr) (xs : List Nat) (c n l : Nat) (w : World) (hl : xs.length = l) (h : BytesIn w a xs) (hc : a = none → c = 0) (hn : n < 18446744073709551616) (hlim : xs.length ≤ 281474976710646) :
    Calls Tryz.prog 63 #[.slice a l c, .int .u64 n] w (Laid w (xs ++ enc n)) := by
  subst hl
  have hle := enc_le10 n hn
  have HL := Lib.hid (len_ n w hn)
  have HR := Lib.hid (room_ a xs c (enc n).length w h hc (by omega))
  have HY : Hid (∀ W g cap, Own W w.heap.size (.slice (some ⟨g, 0, none⟩) xs.length cap) xs → xs.length + (enc n).length ≤ cap → Below w.heap.size w W → Calls Tryz.prog 80 #[.slice (some ⟨g, 0, none⟩) xs.length cap, .int .u64 n] W fun e w' => e = .returned (.slice (some ⟨g, 0, none⟩) (xs ++ enc n).length cap) ∧ Own w' w.heap.size (.slice (some ⟨g, 0, none⟩) (xs ++ enc n).length cap) (xs ++ enc n) ∧ Below w.heap.size W w') :=
    fun W g cap h1 h2 h3 => lay_ g cap w.heap.size n xs W h1 hn h2 h3.size
  unfold Laid
  generalize hz : xs ++ enc n = zs at *
  generalize (enc n).length = k at *
  generalize xs.length = m at *
  clear h hc hz
  go_enter Tryz.func63, Tryz.ntmps63
  go_wp2_with fail
  refine HL.out.mono ?_
  rintro e w1 ⟨rfl, rfl⟩
  go_wp2_with fail
  refine HR.out.mono ?_
  rintro e w2 ⟨rfl, hO, hB⟩
  go_wp2_with fail
  refine (HY.out w2 _ _ hO (Nat.le_refl _) hB).mono ?_
  rintro e w3 ⟨rfl, hO3, hB3⟩
  go_wp2_with fail
  go_ret
  exact ⟨_, _, rfl, hO3, hB.trans hB3⟩
theorem strCells_vals (s : ByteArray) : Lib.strCells s = vals (sb s) := by
  unfold Lib.strCells vals sb
  rw [List.map_map]
  rfl
theorem own_text {w : World} {base g c n : Nat} {xs : List Nat} {s : ByteArray} (hn : xs.length = n) (h : w.ownsRow base 5 1 (.slice (some ⟨g, 0, none⟩) (n + s.size) c) (n + s.size) (vals xs ++ Lib.strCells s)) : Own w base (.slice (some ⟨g, 0, none⟩) (n + s.size) c) (xs ++ sb s) := by
  subst hn
  unfold Own
  rw [← vals_append, List.length_append, sb_length, ← strCells_vals]
  exact h
set_option maxRecDepth 100000 in
set_option maxHeartbeats 1000000 in
theorem appT_ (a : Option Addr) (xs : List Nat) (c l : Nat) (s : ByteArray) (w : World) (hl : xs.length = l) (h : BytesIn w a xs) (hc : a = none → c = 0) (hlim : xs.length + s.size ≤ 281474976710646) :
    Calls Tryz.prog 62 #[.slice a l c, .string s] w (Laid w (xs ++ enc s.size ++ sb s)) := by
  subst hl
  obtain ⟨i0, hi, hz0, hz1, hz2⟩ := info_parts infoB
  have hle := enc_le10 s.size (by omega)
  have hpos := enc_pos s.size
  have HL := Lib.hid (len_ s.size w (by omega))
  have HR := Lib.hid (room_ a xs c ((enc s.size).length + s.size) w h hc (by omega))
  have HY : Hid (∀ W g cap, Own W w.heap.size (.slice (some ⟨g, 0, none⟩) xs.length cap) xs → xs.length + (enc s.size).length ≤ cap → Below w.heap.size w W → Calls Tryz.prog 80 #[.slice (some ⟨g, 0, none⟩) xs.length cap, .int .u64 (s.size : Nat)] W fun e w' => e = .returned (.slice (some ⟨g, 0, none⟩) (xs ++ enc s.size).length cap) ∧ Own w' w.heap.size (.slice (some ⟨g, 0, none⟩) (xs ++ enc s.size).length cap) (xs ++ enc s.size) ∧ Below w.heap.size W w') :=
    fun W g cap h1 h2 h3 => lay_ g cap w.heap.size s.size xs W h1 (by omega) h2 h3.size
  unfold Laid
  have hzl : (xs ++ enc s.size).length ≤ xs.length + (enc s.size).length := Nat.le_of_eq (List.length_append ..)
  generalize hz : xs ++ enc s.size = zs at *
  have htl : (zs ++ sb s).length = zs.length + s.size := by rw [List.length_append, sb_length]
  rw [htl]
  generalize (enc s.size).length = k at *
  generalize hm : xs.length = m at *
  generalize hzz : zs.length = zl at *
  have HT : Hid (∀ (W : World) (base g cap : Nat), W.ownsRow base 5 1 (.slice (some ⟨g, 0, none⟩) (zl + s.size) cap) (zl + s.size) (vals zs ++ Lib.strCells s) → Own W base (.slice (some ⟨g, 0, none⟩) (zl + s.size) cap) (zs ++ sb s)) := fun W base g cap hh => own_text hzz hh
  have HW : Hid (∀ (W : World) (base g cap : Nat), Own W base (.slice (some ⟨g, 0, none⟩) zl cap) zs → W.ownsRow base 5 1 (.slice (some ⟨g, 0, none⟩) zl cap) zl (vals zs)) := fun W base g cap hh => by rw [← hzz]; rw [← hzz] at hh; exact hh
  generalize hsz : s.size = sl at *
  clear h hc hz hm hzz htl
  go_enter Tryz.func62, Tryz.ntmps62
  go_wp2_with fail
  refine HL.out.mono ?_
  rintro e w1 ⟨rfl, rfl⟩
  go_wp2_with fail
  rw [← Int.natCast_add]
  refine HR.out.mono ?_
  rintro e w2 ⟨rfl, hO, hB⟩
  go_wp2_with fail
  refine (HY.out w2 _ _ hO (by omega) hB).mono ?_
  rintro e w3 ⟨rfl, hO3, hB3⟩
  have HO3 := Lib.hid (HW.out _ _ _ _ hO3)
  have hb3 := hB.trans hB3
  have hg3 := (World.ownsRow.lt hO3 _ rfl).1
  have hs3 := hb3.size
  go_wp2_with (first
    | (at_builtin; refine Lib.wpList_append_fits_string _ rfl _ _ 37 9 rfl w1.heap.size 5 i0 Tryz.underlying37 Tryz.underlying9 hi hz1 _ _ _ _ rfl HO3.out s rfl (by omega) (by omega) ?_
       intro w4 hown hgrow
       have HO4 := Lib.hid (HT.out _ _ _ _ (by rw [hsz] at hown; exact hown))
       have hb4 := hb3.grown hgrow hs3 (fun k hk => by cases hk; exact hg3)
       clear hown hgrow)
    | go_in)
  go_ret
  exact ⟨_, _, rfl, HO4.out, hb4⟩
end Go.Proofs.YthaihallfjjnpaaGreatDoor

namespace Go.Proofs.YthaihallfjjnpaaGreatDoor
open Go.RowKit Go.Sort

/-- May it be the last one? -/
def canB (y i : Nat) : Bool := !(decide ((i ≠ 0 ∧ y = 0) ∨ (i = 9 ∧ 1 < y)))
set_option maxHeartbeats 400000 in
theorem canEnd_ (y i : Nat) (w : World) (hy : y < 256) (hi : i < 10) :
    Calls Tryz.prog 88 #[.int .u8 y, .int .i64 i] w fun e w' => e = .returned (.bool (canB y i)) ∧ w' = w := by
  by_cases h0 : i = 0
  · subst h0
    go_enter Tryz.func88, Tryz.ntmps88
    go_wp2
    go_ret
    exact ⟨ret_bool (by simp [canB]), rfl⟩
  · go_enter Tryz.func88, Tryz.ntmps88
    go_wp2
    all_goals (go_ret; refine ⟨ret_bool (Bool.eq_iff_iff.2 ?_), rfl⟩; simp [canB]; omega)
theorem andNot128_all : ∀ x : Fin 256, bits .andNot .u8 (x.val : Int) 128 = ((x.val % 128 : Nat) : Int) := by decide +kernel
theorem andNot128 (y : Nat) (h : y < 256) : bits .andNot .u8 (y : Int) 128 = ((y % 128 : Nat) : Int) := andNot128_all ⟨y, h⟩
theorem and128_all : ∀ x : Fin 256, bits .and .u8 (x.val : Int) 128 = if 128 ≤ x.val then 128 else 0 := by decide +kernel
theorem and128 (y : Nat) (h : y < 256) : bits .and .u8 (y : Int) 128 = if 128 ≤ y then 128 else 0 := and128_all ⟨y, h⟩
/-- Seven bits more. -/
theorem step_bits (X y k : Nat) (hy : y < 256) (hk : k < 10) (hX : X < 128 ^ k) : ∃ N : Nat, bits .or .u64 (X : Int) (IntKind.u64.wrap (IntKind.u64.wrap (bits .andNot .u8 (y : Int) 128) * 2 ^ (7 * k))) = (N : Int) ∧ ((k < 9 ∨ y % 128 ≤ 1) → N = X + y % 128 * 128 ^ k) := by
  have hp : (128 : Nat) ^ k = 2 ^ (7 * k) := by rw [Nat.pow_mul]
  have h9 : (2 : Nat) ^ (7 * k) ≤ 2 ^ 63 := Nat.pow_le_pow_right (by decide) (by omega)
  rw [andNot128 y hy, IntKind.wrap_u64, IntKind.wrap_u64]
  have e1 : (((y % 128 : Nat) : Int) % 18446744073709551616 * 2 ^ (7 * k)) % 18446744073709551616 = ((y % 128 * 2 ^ (7 * k) % 18446744073709551616 : Nat) : Int) := by
    have : ((y % 128 : Nat) : Int) % 18446744073709551616 = ((y % 128 : Nat) : Int) := by omega
    rw [this]
    generalize y % 128 = z
    rw [Int.natCast_emod, Int.natCast_mul, Int.natCast_pow]
    rfl
  rw [e1, (bits_nat .u64 64 (by decide) wraps_u64 X (y % 128 * 2 ^ (7 * k) % 18446744073709551616) (by rw [hp] at hX; omega) (by omega)).2]
  refine ⟨_, rfl, fun hh => ?_⟩
  have hlt : y % 128 * 2 ^ (7 * k) < 18446744073709551616 := by
    rcases hh with hh | hh
    · have h8 : (2 : Nat) ^ (7 * k) ≤ 2 ^ 56 := Nat.pow_le_pow_right (by decide) (by omega)
      have : y % 128 * 2 ^ (7 * k) ≤ 127 * 2 ^ 56 := Nat.mul_le_mul (by omega) h8
      omega
    · have : y % 128 * 2 ^ (7 * k) ≤ 1 * 2 ^ 63 := Nat.mul_le_mul hh h9
      omega
  rw [Nat.mod_eq_of_lt hlt, hp, Nat.or_comm, Nat.mul_comm (y % 128)]
  rw [hp] at hX
  rw [← Nat.two_pow_add_eq_or_of_lt hX, Nat.add_comm]
set_option maxRecDepth 100000 in
set_option maxHeartbeats 2000000 in
theorem uint_ (a : Option Addr) (xs : List Nat) (c : Nat) (w : World) (h : BytesIn w a xs) (hb : ∀ x ∈ xs, x < 256) (hlim : xs.length ≤ 9223372036854775807) :
    Calls Tryz.prog 72 #[.slice a xs.length c] w fun e w' => e = .returned (.tuple #[.int .u64 (rdU xs).1, .int .i64 (rdU xs).2.1, errV (rdU xs).2.2]) ∧ w' = w := by
  have HB := Lib.hid h
  have HA := Lib.hid hb
  obtain ⟨R, hR⟩ : ∃ R, R = rdU xs := ⟨_, rfl⟩
  rw [← hR]
  have HR := Lib.hid hR
  clear h hb hR
  generalize hL : xs.length = len at *
  have HLen := Lib.hid hL
  clear hL
  go_enter Tryz.func72, Tryz.ntmps72
  go_wp2_with fail
  go_loopw [5, 7] (fun nv iv wr => ∃ (k X : Nat), k ≤ 10 ∧ iv = .int .i64 k ∧ nv = .int .u64 X ∧ wr = w ∧ (k < 10 → R = dec X k (xs.drop k) ∧ k ≤ len ∧ X < 128 ^ k) ∧ (k = 10 → R = (0, 0, 3))) (fun _ iv _ => 10 - (intOf iv).toNat)
  case atStart => exact ⟨0, 0, by omega, rfl, rfl, rfl, fun _ => ⟨HR.out, by omega, by simp⟩, fun hh => by omega⟩
  case round =>
    obtain ⟨k, X, hk, rfl, rfl, rfl, h1, h2⟩ := hrel
    have H1 := Lib.hid h1
    have H2 := Lib.hid h2
    clear h1 h2
    by_cases hk10 : k < 10
    · obtain ⟨hd, hkl, hX⟩ := H1.out hk10
      by_cases hend : k = len
      · have e : R = (0, 0, 12) := by
          rw [hd, List.drop_eq_nil_of_le (by rw [HLen.out, hend]; exact Nat.le_refl _)]
          unfold dec
          rw [if_neg (by omega)]
        subst e
        clear hd H1 H2
        go_wp2_with fail
        go_ret3
        exact ⟨rfl, rfl⟩
      · have hlt : k < xs.length := by rw [HLen.out]; omega
        obtain ⟨y, hy⟩ : ∃ y, y = xs.getD k 0 := ⟨_, rfl⟩
        obtain ⟨b, o, rfl, hc⟩ := HB.out k hlt
        rw [← hy] at hc
        have hdrop : xs.drop k = y :: xs.drop (k + 1) := by
          rw [List.drop_eq_getElem_cons hlt, hy, List.getD_eq_getElem?_getD, List.getElem?_eq_getElem hlt]
          rfl
        have hy256 : y < 256 := HA.out y (by rw [hy, List.getD_eq_getElem?_getD, List.getElem?_eq_getElem hlt]; exact List.getElem_mem hlt)
        rw [hdrop] at hd
        unfold dec at hd
        rw [if_neg (by omega)] at hd
        obtain ⟨N, hN, hNe⟩ := step_bits X y k hy256 hk10 hX
        have hpw : (128 : Nat) ^ (k + 1) = 128 ^ k * 128 := Nat.pow_succ ..
        have hand := and128 y hy256
        have HC := Lib.hid (canEnd_ y k wr hy256 hk10)
        have hki : (0 : Int) ≤ (k : Int) := by omega
        have hkl2 : (k : Int) < (len : Int) := by omega
        by_cases hc128 : 128 ≤ y
        · rw [if_pos hc128] at hand hd
          have hfin : ∃ X' : Nat, (N : Int) = (X' : Nat) ∧ (k + 1 < 10 → R = dec X' (k + 1) (xs.drop (k + 1)) ∧ k + 1 ≤ len ∧ X' < 128 ^ (k + 1)) ∧ (k + 1 = 10 → R = (0, 0, 3)) := by
            refine ⟨N, rfl, fun h9 => ?_, fun h10 => ?_⟩
            · have e := hNe (.inl (by omega))
              rw [show y % 128 = y - 128 by omega] at e
              refine ⟨by rw [hd, e], by omega, ?_⟩
              have : (y - 128) * 128 ^ k ≤ 127 * 128 ^ k := Nat.mul_le_mul_right _ (by omega)
              rw [e, hpw]
              omega
            · rw [hd]
              obtain rfl : k = 9 := by omega
              unfold dec
              cases List.drop (9 + 1) xs <;> rfl
          have HF := Lib.hid hfin
          clear hfin hd hX hdrop hy hlt H1 H2 hNe hpw HC
          go_wp2_with fail
          go_roundw
          case rel =>
            obtain ⟨X', e1, e2, e3⟩ := HF.out
            exact ⟨k + 1, X', by omega, by go_num, by rw [e1], trivial, e2, e3⟩
          case measure => simp [intOf]; omega
        · rw [if_neg hc128] at hand hd
          have hfin : (canB y k = false → R = (0, 0, 3)) ∧ (canB y k = true → R = (N, k + 1, 0)) := by
            refine ⟨fun hh => ?_, fun hh => ?_⟩
            · simp only [canB, Bool.not_eq_false', decide_eq_true_eq] at hh
              rw [hd, if_pos hh]
            · simp only [canB, Bool.not_eq_true', decide_eq_false_iff_not] at hh
              rw [hd, if_neg hh, hNe (by omega), Nat.mod_eq_of_lt (by omega)]
          have HF := Lib.hid hfin
          generalize canB y k = cb at *
          clear hfin hd hX hdrop hy hlt H1 H2 hNe hpw
          go_wp2_with fail
          refine HC.out.mono ?_
          rintro e w1 ⟨rfl, rfl⟩
          cases cb
          · have e := HF.out.1 rfl
            subst e
            clear HF
            go_wp2_with fail
            go_ret3
            exact ⟨rfl, rfl⟩
          · have e := HF.out.2 rfl
            subst e
            clear HF
            go_wp2_with fail
            go_ret3
            exact ⟨rfl, rfl⟩
    · obtain rfl : k = 10 := by omega
      have e := H2.out rfl
      subst e
      clear H1 H2
      go_wp2_with fail
      go_ret3
      exact ⟨rfl, rfl⟩
/-- The number with a sign at the begin of bytes; the text there. -/
def rdI (xs : List Nat) : Int × Nat × Nat := (unzz (rdU xs).1, (rdU xs).2.1, (rdU xs).2.2)
theorem BytesIn.part {w : World} {b o k n : Nat} {xs : List Nat} (h : BytesIn w (some ⟨b, o, none⟩) xs) (hk : k + n ≤ xs.length) : BytesIn w (some ⟨b, o + k, none⟩) ((xs.drop k).take n) := by
  intro i hi
  simp only [List.length_take, List.length_drop] at hi
  obtain ⟨b', o', e, h1⟩ := h (k + i) (by omega)
  cases e
  refine ⟨b, o + k, rfl, ?_⟩
  rw [Nat.add_assoc, h1]
  congr 2
  rw [List.getD_eq_getElem?_getD, List.getD_eq_getElem?_getD, List.getElem?_take, if_pos (by omega), List.getElem?_drop]
set_option maxRecDepth 100000 in
set_option maxHeartbeats 1000000 in
theorem text_ (a : Option Addr) (xs : List Nat) (c : Nat) (most : Int) (w : World) (h : BytesIn w a xs) (hb : ∀ x ∈ xs, x < 256) (hlim : xs.length ≤ 9223372036854775807) (hm0 : -9223372036854775808 ≤ most) (hm1 : most ≤ 9223372036854775807) (hcap : xs.length ≤ c) :
    Calls Tryz.prog 73 #[.slice a xs.length c, .int .i64 most] w fun e w' => e = .returned (.tuple #[.string (bs (rdT xs most).1), .int .i64 (rdT xs most).2.1, errV (rdT xs most).2.2]) ∧ w' = w := by
  have HU := Lib.hid (uint_ a xs c w h hb hlim)
  have hlt := rdU_lt xs hb
  have hpos : (rdU xs).2.2 = 0 → 0 < (rdU xs).2.1 := fun hh => (rdU_back xs hb hh).2.1
  have herr := rdU_err xs
  have HB := Lib.hid h
  have hbn : bs [] = ⟨#[]⟩ := rfl
  unfold rdT
  generalize rdU xs = R at *
  obtain ⟨v, k, e⟩ := R
  simp only at herr hlt hpos
  clear h hb
  by_cases h0 : most < 0
  · rw [if_pos h0]
    clear herr hpos hlt HU HB
    generalize xs.length = len at *
    go_enter Tryz.func73, Tryz.ntmps73
    go_wp2_with fail
    go_ret3
    exact ⟨rfl, rfl⟩
  · rw [if_neg h0]
    by_cases he : e = 0
    · subst he
      rw [if_neg (by simp)]
      by_cases h1 : most < v
      · rw [if_pos h1]
        clear herr hpos HB
        generalize xs.length = len at *
        go_enter Tryz.func73, Tryz.ntmps73
        go_wp2_with fail
        refine HU.out.mono ?_
        rintro e w1 ⟨rfl, rfl⟩
        unfold errV
        rw [if_pos rfl]
        go_wp2_with fail
        go_ret3
        exact ⟨rfl, rfl⟩
      · rw [if_neg h1]
        by_cases h2 : xs.length - k < v
        · rw [if_pos h2]
          clear herr hpos HB
          generalize xs.length = len at *
          go_enter Tryz.func73, Tryz.ntmps73
          go_wp2_with fail
          refine HU.out.mono ?_
          rintro e w1 ⟨rfl, rfl⟩
          unfold errV
          rw [if_pos rfl]
          go_wp2_with fail
          go_ret3
          exact ⟨rfl, rfl⟩
        · rw [if_neg h2]
          have hkp := hpos rfl
          obtain ⟨b, o, rfl, _⟩ := HB.out 0 (by omega)
          have hpart := HB.out.part (k := k) (n := v) (by omega)
          have hpl : ((xs.drop k).take v).length = v := by simp; omega
          have hcv := conv_ w _ v (c - k) _ hpl.symm hpart
          have hc0 : v = 0 → (convert 37 9 (.slice (some ⟨b, o, none⟩) 0 0)).run Tryz.prog w = .ok (.string (bs ((xs.drop k).take v))) w := fun hv => by
            subst hv
            rw [List.take_zero]
            exact conv_ w _ 0 0 [] rfl (bytesIn_nil _ _)
          simp only [Int.natCast_add]
          generalize (xs.drop k).take v = ts at *
          clear herr hpos HB hpart hpl
          generalize xs.length = len at *
          have hkl := hlt.2
          have hb1 : (0 : Int) ≤ (k : Int) + v := by omega
          have hb2 : (k : Int) + v ≤ c := by omega
          by_cases hck : c = k
          · subst hck
            obtain rfl : v = 0 := by omega
            have hcv0 := hc0 rfl
            clear hcv hc0
            simp only [Int.natCast_zero, Int.add_zero] at hb1 hb2 ⊢
            go_enter Tryz.func73, Tryz.ntmps73
            go_wp2_with fail
            refine HU.out.mono ?_
            rintro e w1 ⟨rfl, rfl⟩
            unfold errV
            rw [if_pos rfl]
            go_wp2_with fail
            go_ret3
            exact ⟨rfl, rfl⟩
          · clear hc0
            go_enter Tryz.func73, Tryz.ntmps73
            go_wp2_with fail
            refine HU.out.mono ?_
            rintro e w1 ⟨rfl, rfl⟩
            unfold errV
            rw [if_pos rfl]
            go_wp2_with fail
            go_ret3
            exact ⟨rfl, rfl⟩
    · obtain ⟨rfl, rfl⟩ := herr he
      rw [if_pos (by simpa using he)]
      clear hpos HB hlt
      generalize xs.length = len at *
      simp only [errV_not he] at HU ⊢
      go_enter Tryz.func73, Tryz.ntmps73
      go_wp2_with fail
      refine HU.out.mono ?_
      rintro e w1 ⟨rfl, rfl⟩
      go_wp2_with fail
      go_ret3
      exact ⟨rfl, rfl⟩
end Go.Proofs.YthaihallfjjnpaaGreatDoor

namespace Go.Proofs.YthaihallfjjnpaaGreatDoor
open Go.RowKit Go.Sort

theorem own_some {w : World} {base : Nat} {v : Value} {xs : List Nat} (h : Own w base v xs) (hp : 0 < xs.length) : ∃ g c, v = .slice (some ⟨g, 0, none⟩) xs.length c ∧ Own w base (.slice (some ⟨g, 0, none⟩) xs.length c) xs := by
  have h' := h
  rcases h.2 with ⟨_, e⟩ | ⟨g, cap, cur, rfl, _, _, _, _, _, _⟩
  · omega
  · exact ⟨g, cap, rfl, h'⟩
theorem own_one (w : World) (base x : Nat) (hb : base ≤ w.heap.size) : Own (w.alloc (.cells #[.int .u8 (x : Int)] 5)) base (.slice (some ⟨w.heap.size, 0, none⟩) 1 1) [x] :=
  World.ownsRow_lit w #[.int .u8 (x : Int)] 1 hb (by decide) rfl
set_option maxRecDepth 100000 in
set_option maxHeartbeats 1000000 in
theorem uints_ : ∀ (n : Nat) (w : World), n < 18446744073709551616 → Calls Tryz.prog 36 #[.int .u64 n] w (Laid w (enc n)) := by
  obtain ⟨i0, hi, hz0, hz1, hz2⟩ := info_parts infoB
  intro n
  induction n using Nat.strongRecOn with
  | ind n ih =>
    intro w hn
    by_cases hs : n < 128
    · have h256 : (n : Int) % 256 = n := by omega
      have HO := Lib.hid (own_one w w.heap.size n (Nat.le_refl _))
      rw [enc_lt hs]
      clear ih
      go_enter Tryz.func36, Tryz.ntmps36
      go_wp2_with fail
      go_ret
      exact ⟨_, _, rfl, HO.out, (Below.refl _ _).alloc (Nat.le_refl _) _⟩
    · obtain ⟨y, hy⟩ : ∃ y, y = n % 128 + 128 := ⟨_, rfl⟩
      have hy1 : ((n : Int) % 128) % 256 = (n : Int) % 128 := by omega
      have hy2 : (n : Int) % 128 + 128 = (y : Int) := by omega
      have HO := Lib.hid (own_one w w.heap.size y (Nat.le_refl _))
      have HI := Lib.hid (ih (n / 128) (by omega) (w.alloc (.cells #[.int .u8 (y : Int)] 5)) (by omega))
      have hel := enc_le10 (n / 128) (by omega)
      have hep := enc_pos (n / 128)
      have e : enc n = [y] ++ enc (n / 128) := by rw [enc_ge (by omega), hy]; rfl
      rw [e]
      have hone := one_one .u8 (y : Int)
      clear ih e hy
      generalize enc (n / 128) = es at *
      generalize hel2 : es.length = el at *
      go_enter Tryz.func36, Tryz.ntmps36
      go_wp2_with fail
      have hq : (n : Int) / 128 = ((n / 128 : Nat) : Int) := by omega
      rw [hq]
      refine HI.out.mono ?_
      rintro e w2 ⟨g, c, rfl, hO2, hb2⟩
      have hrow1 : w2.ownsRow w.heap.size 5 1 (.slice (some ⟨w.heap.size, 0, none⟩) 1 1) 1 (vals [y]) := HO.out.on hb2
      have HR1 := Lib.hid hrow1
      have HN := Lib.hid hO2.cells.2.1.news
      have hb3 : Below w.heap.size w w2 := (((Below.refl w.heap.size w).alloc (Nat.le_refl _) _)).trans (hb2.mono (by simp))
      have Hb3 := Lib.hid hb3
      have hvl : (vals es).length = el := by rw [vals_len, hel2]
      rw [hel2]
      clear hO2 hb2 hb3 hrow1 HI HO hq hy1 hy2 hone
      have hsz := Hb3.out.size
      go_wp2_with (first
        | (at_builtin; refine wpList_append_own _ rfl _ _ 37 rfl w.heap.size 5 i0 (.int .u8 0) 1 1 Tryz.underlying37 hi hz0 hz1 hz2 rfl (by decide) _ 1 (vals [y]) rfl HR1.out ⟨g, 0, none⟩ el c (vals es) rfl (by omega) HN.out (vals_one es) (by unfold maxLen; omega) (by omega) (by omega) ?_
           intro v' w3 hown hgrow _)
        | go_in)
      have hO4 := own_join (xs := [y]) rfl hel2 hown
      obtain ⟨g', c', rfl, hO5⟩ := own_some hO4 (by simp)
      have hb5 := Hb3.out.grown hgrow Hb3.out.size (fun k hk => by cases hk; exact Nat.le_refl _)
      go_wp2_with fail
      go_ret
      exact ⟨g', c', rfl, hO5, hb5⟩
set_option maxRecDepth 100000 in
set_option maxHeartbeats 1000000 in
theorem texts_ (s : ByteArray) (w : World) (hlim : s.size ≤ 140737488355318) : Calls Tryz.prog 37 #[.string s] w (Laid w (enc s.size ++ sb s)) := by
  obtain ⟨i0, hi, hz0, hz1, hz2⟩ := info_parts infoB
  have HU := Lib.hid (uints_ s.size w (by omega))
  have hel := enc_le10 s.size (by omega)
  have hep := enc_pos s.size
  have hsb := sb_length s
  generalize enc s.size = es at *
  generalize hel2 : es.length = el at *
  generalize hsz : s.size = sl at *
  go_enter Tryz.func37, Tryz.ntmps37
  go_wp2_with fail
  refine HU.out.mono ?_
  rintro e w2 ⟨g, c, rfl, hO2, hb2⟩
  rw [hel2]
  have hrow : w2.ownsRow w.heap.size 5 1 (.slice (some ⟨g, 0, none⟩) el c) el (vals es) := by rw [← hel2]; exact hO2
  have HR := Lib.hid hrow
  have Hb2 := Lib.hid hb2
  have hg := (World.ownsRow.lt hrow g rfl).1
  have hs2 := hb2.size
  clear hO2 hrow HU hb2
  go_wp2_with (first
    | (at_builtin; refine Lib.wpList_append_own_string _ rfl _ _ 37 9 rfl w.heap.size 5 i0 Tryz.underlying37 Tryz.underlying9 hi hz0 hz1 hz2 _ el (vals es) rfl HR.out s rfl (by unfold maxLen; omega) (by omega) (by omega) ?_
       intro v' w3 hown hgrow _)
    | go_in)
  rw [strCells_vals, hsz] at hown
  have hO4 := own_join hel2 hsb hown
  obtain ⟨g', c', rfl, hO5⟩ := own_some hO4 (by rw [List.length_append]; omega)
  have hb5 := Hb2.out.grown hgrow hs2 (fun k hk => by cases hk; exact hg)
  generalize es ++ sb s = zs at *
  go_wp2_with fail
  go_ret
  exact ⟨g', c', rfl, hO5, hb5⟩
end Go.Proofs.YthaihallfjjnpaaGreatDoor

namespace Go.Proofs.YthaihallfjjnpaaGreatDoor
open Go.RowKit Go.Sort

/-- The number that bytes say, the lowest group first. -/
def num : List Nat → Nat
  | [] => 0
  | x :: xs => x % 128 + 128 * num xs
theorem num_append (xs ys : List Nat) : num (xs ++ ys) = num xs + 128 ^ xs.length * num ys := by
  induction xs with
  | nil => simp [num]
  | cons x xs ih =>
    simp only [List.cons_append, num, ih, List.length_cons, Nat.pow_succ]
    rw [Nat.mul_add, ← Nat.mul_assoc, Nat.mul_comm 128 (128 ^ xs.length), Nat.add_assoc]
theorem num_lt (xs : List Nat) : num xs < 128 ^ xs.length := by
  induction xs with
  | nil => simp [num]
  | cons x xs ih =>
    simp only [num, List.length_cons, Nat.pow_succ]
    omega
theorem take_snoc (xs : List Nat) (k : Nat) (h : k < xs.length) : xs.take (k + 1) = xs.take k ++ [xs.getD k 0] := by
  rw [List.take_succ_eq_append_getElem h, List.getD_eq_getElem?_getD, List.getElem?_eq_getElem h]
  rfl
theorem num_take (xs : List Nat) (k : Nat) (h : k < xs.length) : num (xs.take (k + 1)) = num (xs.take k) + 128 ^ k * (xs.getD k 0 % 128) := by
  rw [take_snoc xs k h, num_append, List.length_take, Nat.min_eq_left (by omega)]
  simp [num]
theorem drop_at (xs : List Nat) (k : Nat) (h : k < xs.length) : xs.drop k = xs.getD k 0 :: xs.drop (k + 1) := by
  rw [List.drop_eq_getElem_cons h, List.getD_eq_getElem?_getD, List.getElem?_eq_getElem h]
  rfl
/-- A byte more of the row. -/
theorem dec_step (xs : List Nat) (k : Nat) (h : k < xs.length) (hk : k < 10) (hy : 128 ≤ xs.getD k 0) (hb : xs.getD k 0 < 256) (R : Nat × Nat × Nat) (hR : R = dec (num (xs.take k)) k (xs.drop k)) : R = dec (num (xs.take (k + 1))) (k + 1) (xs.drop (k + 1)) := by
  rw [hR, drop_at xs k h, dec, if_neg (by omega), if_pos hy, num_take xs k h, Nat.mul_comm (128 ^ k), show xs.getD k 0 - 128 = xs.getD k 0 % 128 by omega]
/-- The row has ended. -/
theorem dec_stop (xs : List Nat) (k : Nat) (hk : k ≤ 10) (hl : k ≤ xs.length) (R : Nat × Nat × Nat) (hR : R = dec (num (xs.take k)) k (xs.drop k)) (hstop : k < xs.length → k < 10 → xs.getD k 0 < 128) :
    (k = 10 → R = (0, 0, 3)) ∧ (k ≠ 10 → k = xs.length → R = (0, 0, 12)) ∧ (k ≠ 10 → k < xs.length → ((k = 9 ∧ 1 < xs.getD k 0) ∨ (0 < k ∧ xs.getD k 0 = 0)) → R = (0, 0, 3)) ∧
      (k ≠ 10 → k < xs.length → ¬ ((k = 9 ∧ 1 < xs.getD k 0) ∨ (0 < k ∧ xs.getD k 0 = 0)) → R = (num (xs.take (k + 1)), k + 1, 0)) := by
  refine ⟨fun h => ?_, fun h1 h2 => ?_, fun h1 h2 h3 => ?_, fun h1 h2 h3 => ?_⟩
  · subst h
    rw [hR]
    cases List.drop 10 xs <;> rfl
  · rw [hR, List.drop_eq_nil_of_le (by omega), dec, if_neg h1]
  · have := hstop h2 (by omega)
    rw [hR, drop_at xs k h2, dec, if_neg h1, if_neg (by omega), if_pos (by omega)]
  · have := hstop h2 (by omega)
    rw [hR, drop_at xs k h2, dec, if_neg h1, if_neg (by omega), if_neg (by omega), num_take xs k h2, Nat.mul_comm (128 ^ k), Nat.mod_eq_of_lt (by omega)]
/-- From the highest group down. -/
theorem horner (xs : List Nat) (i : Nat) (N T : Nat) (h : i < xs.length) (hN : T = num (xs.take (i + 1)) + 128 ^ (i + 1) * N) : T = num (xs.take i) + 128 ^ i * (N * 128 + xs.getD i 0 % 128) := by
  rw [hN, num_take xs i h, Nat.pow_succ, Nat.mul_add, Nat.mul_assoc, Nat.mul_comm N 128]
  omega
set_option maxRecDepth 100000 in
set_option maxHeartbeats 2000000 in
theorem ruint_ (a : Option Addr) (xs : List Nat) (c : Nat) (w : World) (h : BytesIn w a xs) (hb : ∀ x ∈ xs, x < 256) (hlim : xs.length ≤ 9223372036854775807) :
    Calls Tryz.prog 53 #[.slice a xs.length c] w fun e w' => e = .returned (.tuple #[.int .u64 (rdU xs).1, .int .i64 (rdU xs).2.1, .int .i64 (rdU xs).2.2]) ∧ w' = w := by
  have hbk : ∀ k, k < xs.length → xs.getD k 0 < 256 := fun k hk => hb _ (by rw [List.getD_eq_getElem?_getD, List.getElem?_eq_getElem hk]; exact List.getElem_mem hk)
  have hRlt := (rdU_lt xs hb).1
  have HB := Lib.hid h
  have HA := Lib.hid hbk
  obtain ⟨R, hR⟩ : ∃ R, R = rdU xs := ⟨_, rfl⟩
  rw [← hR] at hRlt ⊢
  have HR : Hid (R = dec (num (xs.take 0)) 0 (xs.drop 0)) := hR
  clear h hb hbk hR
  generalize hL : xs.length = len at *
  have HLen := Lib.hid hL
  clear hL
  go_enter Tryz.func53, Tryz.ntmps53
  go_wp2_with fail
  go_loopw [5] (fun kv wr => ∃ (k : Nat), k ≤ 10 ∧ k ≤ len ∧ kv = .int .i64 k ∧ wr = w ∧ R = dec (num (xs.take k)) k (xs.drop k)) (fun kv _ => 10 - (intOf kv).toNat)
  case atStart => exact ⟨0, by omega, by omega, rfl, rfl, HR.out⟩
  case round =>
    obtain ⟨k, hk, hkl, rfl, rfl, hRk⟩ := hrel
    have HRk := Lib.hid hRk
    clear hRk
    by_cases hgo : k < len ∧ k < 10 ∧ 128 ≤ xs.getD k 0
    · obtain ⟨g1, g2, g3⟩ := hgo
      have hlt : k < xs.length := by rw [HLen.out]; exact g1
      have HN := Lib.hid (dec_step xs k hlt g2 g3 (HA.out k g1) R HRk.out)
      obtain ⟨b, o, rfl, hc⟩ := HB.out k hlt
      have hy := HA.out k g1
      generalize xs.getD k 0 = y at *
      have hki : (0 : Int) ≤ (k : Int) := by omega
      have hkl2 : (k : Int) < (len : Int) := by omega
      clear hlt HRk
      go_wp2_with fail
      go_roundw
      case rel => exact ⟨k + 1, by omega, by omega, by go_num, trivial, HN.out⟩
      case measure => simp [intOf]; omega
    · have hstop : k < xs.length → k < 10 → xs.getD k 0 < 128 := fun h1 h2 => by
        rw [HLen.out] at h1
        omega
      have hS := dec_stop xs k hk (by rw [HLen.out]; exact hkl) R HRk.out hstop
      rw [HLen.out] at hS hstop
      by_cases h10 : k = 10
      · subst h10
        obtain rfl := hS.1 rfl
        clear hS HRk HR hgo hstop
        by_cases h10l : (10 : Nat) < len
        · have hg0 : ((10 : Nat) : Int) < (len : Int) := by omega
          go_wp2_with fail
          go_ret3
          exact ⟨rfl, rfl⟩
        · have hg0 : (len : Int) = 10 := by omega
          obtain rfl : len = 10 := by omega
          go_wp2_with fail
          go_ret3
          exact ⟨rfl, rfl⟩
      · by_cases hkl2 : k = len
        · obtain rfl := hS.2.1 h10 hkl2
          clear hS HRk HR hgo hstop
          subst hkl2
          have hk10 : ((k : Int) == 10) = false := by rw [beq_eq_false_iff_ne]; omega
          go_wp2_with fail
          go_ret3
          exact ⟨rfl, rfl⟩
        · have hk1 : k < len := by omega
          have hk2 : k < 10 := by omega
          have hlt : k < xs.length := by rw [HLen.out]; exact hk1
          have hy := hstop hk1 hk2
          obtain ⟨b, o, rfl, hc⟩ := HB.out k hlt
          have hb3 := hS.2.2.1 h10 hk1
          have hb4 := hS.2.2.2 h10 hk1
          have H3 := Lib.hid hb3
          have H4 := Lib.hid hb4
          clear hb3 hb4 hS hstop hgo HRk HR
          obtain ⟨y, hyy⟩ : ∃ y, y = xs.getD k 0 := ⟨_, rfl⟩
          rw [← hyy] at hc hy H3 H4
          clear hyy
          have hk10 : ((k : Int) == 10) = false := by rw [beq_eq_false_iff_ne]; omega
          have hkln : ((k : Int) == (len : Int)) = false := by rw [beq_eq_false_iff_ne]; omega
          have hki : (0 : Int) ≤ (k : Int) := by omega
          have hkll : (k : Int) < (len : Int) := by omega
          by_cases hbad : (k = 9 ∧ 1 < y) ∨ (0 < k ∧ y = 0)
          · obtain rfl := H3.out hbad
            clear H3 H4
            by_cases h9 : k = 9
            · subst h9
              by_cases hy1 : 1 < y
              · have hd : (1 : Int) < (y : Int) := by omega
                go_wp2_with fail
                go_ret3
                exact ⟨rfl, rfl⟩
              · obtain rfl : y = 0 := by omega
                go_wp2_with fail
                go_ret3
                exact ⟨rfl, rfl⟩
            · obtain ⟨h0, rfl⟩ : 0 < k ∧ y = 0 := by omega
              have hk9 : ((k : Int) == 9) = false := by rw [beq_eq_false_iff_ne]; omega
              have hk0 : (0 : Int) < k := by omega
              go_wp2_with fail
              go_ret3
              exact ⟨rfl, rfl⟩
          · have hT := H4.out hbad
            have hT1 : R.1 = num (xs.take (k + 1)) := by rw [hT]
            have hR2 : R = (R.1, k + 1, 0) := by rw [hT]
            clear hT H3 H4
            generalize R.1 = T at *
            subst hR2
            have HT := Lib.hid hT1
            clear hT1
            by_cases h9 : k = 9
            · subst h9
              obtain rfl : y = 1 := by omega
              clear hbad h10 hkl2
              rename World => W1
              go_wp2_with fail
              go_loopw [6, 7] (fun nv iv wr' => ∃ (j N : Nat), nv = .int .u64 N ∧ iv = .int .i64 ((j : Int) - 1) ∧ wr' = W1 ∧ j ≤ 9 + 1 ∧ T = num (xs.take j) + 128 ^ j * N) (fun _ iv _ => (intOf iv + 1).toNat)
              case atStart => exact ⟨9 + 1, 0, rfl, by go_num, rfl, Nat.le_refl _, by rw [HT.out]; simp⟩
              case round =>
                obtain ⟨j, N, rfl, rfl, rfl, hj, hTN⟩ := hrel
                by_cases hj0 : j = 0
                · subst hj0
                  obtain rfl : T = N := by rw [hTN]; simp [num]
                  clear hTN HT
                  go_wp2_with fail
                  go_ret3
                  exact ⟨rfl, rfl⟩
                · obtain ⟨i, rfl⟩ : ∃ i, j = i + 1 := ⟨j - 1, by omega⟩
                  have hil : i < xs.length := by rw [HLen.out]; omega
                  have hT2 := horner xs i N T hil hTN
                  obtain ⟨b', o', hbo, hci⟩ := HB.out i hil
                  cases hbo
                  have hzi := HA.out i (by rw [HLen.out] at hil; exact hil)
                  have hle : N * 128 + xs.getD i 0 % 128 < 18446744073709551616 := by
                    have h1 : 1 * (N * 128 + xs.getD i 0 % 128) ≤ 128 ^ i * (N * 128 + xs.getD i 0 % 128) := Nat.mul_le_mul_right _ (Nat.pow_pos (by decide))
                    omega
                  have hilen : (i : Int) < len := by rw [HLen.out] at hil; omega
                  have hi0 : (0 : Int) ≤ (i : Int) := by omega
                  have e : (((i + 1 : Nat) : Int) - 1) = (i : Int) := by omega
                  rw [e]
                  have H2 := Lib.hid hT2
                  generalize xs.getD i 0 = z at *
                  clear hTN hT2 hil e HT
                  go_wp2_with fail
                  go_roundw
                  case rel => exact ⟨i, N * 128 + z % 128, by go_num, rfl, trivial, by omega, H2.out⟩
                  case measure => first | (simp [intOf]; done) | (simp [intOf]; omega)
            · have hk9 : ((k : Int) == 9) = false := by rw [beq_eq_false_iff_ne]; omega
              by_cases h0 : k = 0
              · subst h0
                clear hbad h10 h9 hkl2
                rw [Nat.add_zero] at hc
                rename World => W1
                go_wp2_with fail
                go_loopw [6, 7] (fun nv iv wr' => ∃ (j N : Nat), nv = .int .u64 N ∧ iv = .int .i64 ((j : Int) - 1) ∧ wr' = W1 ∧ j ≤ 0 + 1 ∧ T = num (xs.take j) + 128 ^ j * N) (fun _ iv _ => (intOf iv + 1).toNat)
                case atStart => exact ⟨0 + 1, 0, rfl, by go_num, rfl, Nat.le_refl _, by rw [HT.out]; simp⟩
                case round =>
                  obtain ⟨j, N, rfl, rfl, rfl, hj, hTN⟩ := hrel
                  by_cases hj0 : j = 0
                  · subst hj0
                    obtain rfl : T = N := by rw [hTN]; simp [num]
                    clear hTN HT
                    go_wp2_with fail
                    go_ret3
                    exact ⟨rfl, rfl⟩
                  · obtain ⟨i, rfl⟩ : ∃ i, j = i + 1 := ⟨j - 1, by omega⟩
                    have hil : i < xs.length := by rw [HLen.out]; omega
                    have hT2 := horner xs i N T hil hTN
                    obtain ⟨b', o', hbo, hci⟩ := HB.out i hil
                    cases hbo
                    have hzi := HA.out i (by rw [HLen.out] at hil; exact hil)
                    have hle : N * 128 + xs.getD i 0 % 128 < 18446744073709551616 := by
                      have h1 : 1 * (N * 128 + xs.getD i 0 % 128) ≤ 128 ^ i * (N * 128 + xs.getD i 0 % 128) := Nat.mul_le_mul_right _ (Nat.pow_pos (by decide))
                      omega
                    have hilen : (i : Int) < len := by rw [HLen.out] at hil; omega
                    have hi0 : (0 : Int) ≤ (i : Int) := by omega
                    have e : (((i + 1 : Nat) : Int) - 1) = (i : Int) := by omega
                    rw [e]
                    have H2 := Lib.hid hT2
                    generalize xs.getD i 0 = z at *
                    clear hTN hT2 hil e HT
                    go_wp2_with fail
                    go_roundw
                    case rel => exact ⟨i, N * 128 + z % 128, by go_num, rfl, trivial, by omega, H2.out⟩
                    case measure => first | (simp [intOf]; done) | (simp [intOf]; omega)
              · have hy0 : ((y : Int) == 0) = false := by rw [beq_eq_false_iff_ne]; omega
                have hk0 : (0 : Int) < k := by omega
                clear hbad
                rename World => W1
                go_wp2_with fail
                go_loopw [6, 7] (fun nv iv wr' => ∃ (j N : Nat), nv = .int .u64 N ∧ iv = .int .i64 ((j : Int) - 1) ∧ wr' = W1 ∧ j ≤ k + 1 ∧ T = num (xs.take j) + 128 ^ j * N) (fun _ iv _ => (intOf iv + 1).toNat)
                case atStart => exact ⟨k + 1, 0, rfl, by go_num, rfl, Nat.le_refl _, by rw [HT.out]; simp⟩
                case round =>
                  obtain ⟨j, N, rfl, rfl, rfl, hj, hTN⟩ := hrel
                  by_cases hj0 : j = 0
                  · subst hj0
                    obtain rfl : T = N := by rw [hTN]; simp [num]
                    clear hTN HT
                    go_wp2_with fail
                    go_ret3
                    exact ⟨rfl, rfl⟩
                  · obtain ⟨i, rfl⟩ : ∃ i, j = i + 1 := ⟨j - 1, by omega⟩
                    have hil : i < xs.length := by rw [HLen.out]; omega
                    have hT2 := horner xs i N T hil hTN
                    obtain ⟨b', o', hbo, hci⟩ := HB.out i hil
                    cases hbo
                    have hzi := HA.out i (by rw [HLen.out] at hil; exact hil)
                    have hle : N * 128 + xs.getD i 0 % 128 < 18446744073709551616 := by
                      have h1 : 1 * (N * 128 + xs.getD i 0 % 128) ≤ 128 ^ i * (N * 128 + xs.getD i 0 % 128) := Nat.mul_le_mul_right _ (Nat.pow_pos (by decide))
                      omega
                    have hilen : (i : Int) < len := by rw [HLen.out] at hil; omega
                    have hi0 : (0 : Int) ≤ (i : Int) := by omega
                    have e : (((i + 1 : Nat) : Int) - 1) = (i : Int) := by omega
                    rw [e]
                    have H2 := Lib.hid hT2
                    generalize xs.getD i 0 = z at *
                    clear hTN hT2 hil e HT
                    go_wp2_with fail
                    go_roundw
                    case rel => exact ⟨i, N * 128 + z % 128, by go_num, rfl, trivial, by omega, H2.out⟩
                    case measure => first | (simp [intOf]; done) | (simp [intOf]; omega)
end Go.Proofs.YthaihallfjjnpaaGreatDoor

namespace Go.Proofs.YthaihallfjjnpaaGreatDoor
open Go.RowKit Go.Sort

set_option maxRecDepth 100000 in
set_option maxHeartbeats 1000000 in
theorem rtext_ (a : Option Addr) (xs : List Nat) (c : Nat) (most : Int) (w : World) (h : BytesIn w a xs) (hb : ∀ x ∈ xs, x < 256) (hlim : xs.length ≤ 9223372036854775807) (hm0 : -9223372036854775808 ≤ most) (hm1 : most ≤ 9223372036854775807) (hcap : xs.length ≤ c) :
    Calls Tryz.prog 54 #[.slice a xs.length c, .int .i64 most] w fun e w' => e = .returned (.tuple #[.string (bs (rdT xs most).1), .int .i64 (rdT xs most).2.1, .int .i64 (rdT xs most).2.2]) ∧ w' = w := by
  have HU := Lib.hid (ruint_ a xs c w h hb hlim)
  have hlt := rdU_lt xs hb
  have hpos : (rdU xs).2.2 = 0 → 0 < (rdU xs).2.1 := fun hh => (rdU_back xs hb hh).2.1
  have herr := rdU_err xs
  have HB := Lib.hid h
  have hbn : bs [] = ⟨#[]⟩ := rfl
  unfold rdT
  generalize rdU xs = R at *
  obtain ⟨v, k, e⟩ := R
  simp only at herr hlt hpos
  clear h hb
  by_cases h0 : most < 0
  · rw [if_pos h0]
    clear herr hpos hlt HU HB
    generalize xs.length = len at *
    go_enter Tryz.func54, Tryz.ntmps54
    go_wp2_with fail
    go_ret3
    exact ⟨rfl, rfl⟩
  · rw [if_neg h0]
    by_cases he : e = 0
    · subst he
      rw [if_neg (by simp)]
      by_cases h1 : most < v
      · rw [if_pos h1]
        clear herr hpos HB
        generalize xs.length = len at *
        go_enter Tryz.func54, Tryz.ntmps54
        go_wp2_with fail
        refine HU.out.mono ?_
        rintro e w1 ⟨rfl, rfl⟩
        go_wp2_with fail
        go_ret3
        exact ⟨rfl, rfl⟩
      · rw [if_neg h1]
        by_cases h2 : xs.length - k < v
        · rw [if_pos h2]
          clear herr hpos HB
          generalize xs.length = len at *
          go_enter Tryz.func54, Tryz.ntmps54
          go_wp2_with fail
          refine HU.out.mono ?_
          rintro e w1 ⟨rfl, rfl⟩
          go_wp2_with fail
          go_ret3
          exact ⟨rfl, rfl⟩
        · rw [if_neg h2]
          have hkp := hpos rfl
          obtain ⟨b, o, rfl, _⟩ := HB.out 0 (by omega)
          have hpart := HB.out.part (k := k) (n := v) (by omega)
          have hpl : ((xs.drop k).take v).length = v := by simp; omega
          have hcv := conv_ w _ v (c - k) _ hpl.symm hpart
          have hc0 : v = 0 → (convert 37 9 (.slice (some ⟨b, o, none⟩) 0 0)).run Tryz.prog w = .ok (.string (bs ((xs.drop k).take v))) w := fun hv => by
            subst hv
            rw [List.take_zero]
            exact conv_ w _ 0 0 [] rfl (bytesIn_nil _ _)
          simp only [Int.natCast_add]
          generalize (xs.drop k).take v = ts at *
          clear herr hpos HB hpart hpl
          generalize xs.length = len at *
          have hkl := hlt.2
          have hb1 : (0 : Int) ≤ (k : Int) + v := by omega
          have hb2 : (k : Int) + v ≤ c := by omega
          by_cases hck : c = k
          · subst hck
            obtain rfl : v = 0 := by omega
            have hcv0 := hc0 rfl
            clear hcv hc0
            simp only [Int.natCast_zero, Int.add_zero] at hb1 hb2 ⊢
            go_enter Tryz.func54, Tryz.ntmps54
            go_wp2_with fail
            refine HU.out.mono ?_
            rintro e w1 ⟨rfl, rfl⟩
            go_wp2_with fail
            go_ret3
            exact ⟨rfl, rfl⟩
          · clear hc0
            go_enter Tryz.func54, Tryz.ntmps54
            go_wp2_with fail
            refine HU.out.mono ?_
            rintro e w1 ⟨rfl, rfl⟩
            go_wp2_with fail
            go_ret3
            exact ⟨rfl, rfl⟩
    · obtain ⟨rfl, rfl⟩ := herr he
      rw [if_pos (by simpa using he)]
      clear hpos HB hlt
      generalize xs.length = len at *
      have hei : ((e : Int) != 0) = true := by rw [bne_iff_ne]; omega
      go_enter Tryz.func54, Tryz.ntmps54
      go_wp2_with fail
      refine HU.out.mono ?_
      rintro e w1 ⟨rfl, rfl⟩
      go_wp2_with fail
      go_ret3
      exact ⟨rfl, rfl⟩
end Go.Proofs.YthaihallfjjnpaaGreatDoor
