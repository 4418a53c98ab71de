/- The walk of the document's Update; The walks of the document's Seal and Open. -/
import Derived.Test.YtjnhcanohefjiaaGreatDoorJCA
namespace Go.Proofs.YtjnhcanohefjiaaGreatDoor
open Go.RowKit Go.Sort

set_option maxRecDepth 100000 in
set_option maxHeartbeats 1000000 in
theorem rupd_ (n : Nat) (a : Option Addr) (xs : List Nat) (c : Nat) (w : World) (h : BytesIn w a xs) (hx : ∀ x ∈ xs, x < 256) (hn : n < 4294967296) (hlim : xs.length ≤ 281474976710656) :
    Calls Tryz.prog 95 #[.int .u32 n, .slice a xs.length c] w fun e w' => e = .returned (.int .u32 (sm n xs : Nat)) ∧ w' = w := by
  have HB := Lib.hid h
  have Hx := Lib.hid hx
  have HR : Hid (∀ y : Nat, y < 4294967296 → Calls Tryz.prog 103 #[.int .u32 y] w fun e w' => e = .returned (.int .u32 (dvs 8 y : Nat)) ∧ w' = w) := fun y hy => rrem_ y w hy
  clear h hx
  have hnn : 4294967295 - (n : Int) = ((4294967295 - n : Nat) : Int) := by omega
  obtain ⟨m, hm⟩ : ∃ m, m = 4294967295 - n := ⟨_, rfl⟩
  rw [← hm] at hnn
  have hm32 : m < 4294967296 := by omega
  have HM := Lib.hid hm
  clear hm
  go_enter Tryz.func95, Tryz.ntmps95
  go_wp2_with fail
  clear hnn
  go_loopw [5, 6] (fun xv iv wr => ∃ i x : Nat, iv = .int .i64 i ∧ xv = .int .u32 x ∧ Hid (x = upd m (xs.take i)) ∧ x < 4294967296 ∧ i ≤ xs.length ∧ wr = w) (fun _ iv _ => (xs.length - intOf iv).toNat)
  case atStart => exact ⟨0, m, rfl, rfl, Lib.hid rfl, hm32, Nat.zero_le _, rfl⟩
  case round =>
    obtain ⟨i, x, rfl, rfl, hux, hx32, hi, rfl⟩ := hrel
    by_cases hil : i = xs.length
    · have hge : decide (i < xs.length) = false := decide_eq_false (by omega)
      have hn2 : 4294967295 - (x : Int) = ((4294967295 - x : Nat) : Int) := by omega
      have HI := Lib.hid hil
      clear hil
      go_wp2_with fail
      go_ret
      refine ⟨ret_int ?_, rfl⟩
      unfold sm
      rw [← HM.out, hux.out, HI.out, List.take_length]
    · have hlt : decide (i < xs.length) = true := decide_eq_true (by omega)
      obtain ⟨b0, o0, rfl, hc⟩ := HB.out i (by omega)
      have hu := upd_snoc m xs i (by omega)
      have hy := byte_at Hx.out i
      rw [← hux.out] at hu
      generalize xs.getD i 0 = y at *
      have hxx := xor_ x y hx32 (by omega)
      have hxy : x ^^^ y < 4294967296 := Nat.xor_lt_two_pow (n := 32) hx32 (by omega)
      have H8 := Lib.hid (HR.out (x ^^^ y) hxy)
      rw [← hu] at H8
      have hx' : upd m (xs.take (i + 1)) < 4294967296 := by rw [hu]; exact dvs_lt 8 _ hxy
      obtain ⟨x', hxe⟩ : ∃ x', x' = upd m (xs.take (i + 1)) := ⟨_, rfl⟩
      rw [← hxe] at H8 hx'
      have HXE := Lib.hid hxe
      clear hxe hu hux
      generalize x ^^^ y = xy at *
      go_wp2_with fail
      refine H8.out.mono ?_
      rintro e w1 ⟨rfl, rfl⟩
      go_wp2_with fail
      go_roundw
      case rel => exact ⟨i + 1, x', by go_num, rfl, HXE, hx', by omega, trivial⟩
      case measure => simp [intOf]; omega
end Go.Proofs.YtjnhcanohefjiaaGreatDoor

namespace Go.Proofs.YtjnhcanohefjiaaGreatDoor
open Go.RowKit Go.Sort

theorem four_in (w : World) (s : Nat) (h : s < 4294967296) : BytesIn (w.alloc (.cells #[.int .u8 ((s : Int) / 16777216), .int .u8 ((s : Int) / 65536 % 256), .int .u8 ((s : Int) / 256 % 256), .int .u8 ((s : Int) % 256)] 5)) (some ⟨w.heap.size, 0, none⟩) (four s) := by
  rw [quad_lit s h]
  intro i hi
  refine ⟨_, _, rfl, ?_⟩
  rw [Nat.zero_add, cell_of_row _ _ i _ 5 (0, 0) (heap_alloc_last w _)]
  have := vals_get (four s) i hi
  simpa [quad] using this
set_option maxRecDepth 100000 in
set_option maxHeartbeats 1000000 in
theorem rseal_ (a : Option Addr) (xs : List Nat) (c : Nat) (w : World) (h : BytesIn w a xs) (hx : ∀ x ∈ xs, x < 256) (hc : a = none → c = 0) (hlim : xs.length ≤ 140737488355320) :
    Calls Tryz.prog 80 #[.slice a xs.length c] w (Made w (xs ++ four (sm 0 xs))) := by
  have H := Lib.hid (rupd_ 0 a xs c w h hx (by decide) (by omega))
  have hs := sm_lt 0 xs
  have HB := Lib.hid h
  have HC := Lib.hid hc
  clear h hx hc
  generalize sm 0 xs = s at *
  obtain ⟨len, hlen⟩ : ∃ len, xs.length = len := ⟨_, rfl⟩
  have HL := Lib.hid hlen
  rw [hlen] at hlim H ⊢
  clear hlen
  go_enter Tryz.func80, Tryz.ntmps80
  go_wp2_with fail
  refine H.out.mono ?_
  rintro e w1 ⟨rfl, rfl⟩
  clear H
  go_wp2_with (first
    | (at_builtin; refine wpList_append_bytes _ rfl _ _ rfl w1.heap.size _ [] xs rfl (own_nil _ _) a len c rfl HL.out HC.out HB.out (by rw [HL.out]; simp; omega) (Nat.le_refl _) ?_
       intro v2 w2 hown hgrow
       have HO2 := Lib.hid hown
       have Hb2 := Lib.hid (below_grow (Below.refl _ _) (own_nil _ _) hgrow)
       have hs2 := Hb2.out.size
       clear hown hgrow)
    | (at_builtin; refine wpList_append_bytes _ rfl _ _ rfl w1.heap.size _ ([] ++ xs) (four s) rfl (World.ownsRow.alloc HO2.out _) _ 4 4 rfl rfl (fun hh => by cases hh) (four_in w2 s hs) (by rw [List.nil_append, HL.out, four_length]; omega) (by simp; omega) ?_
       intro v3 w3 hown hgrow
       have HO3 := Lib.hid hown
       have Hb3 := Lib.hid (below_grow (Hb2.out.alloc hs2 _) (World.ownsRow.alloc HO2.out _) hgrow)
       clear hown hgrow)
    | fail)
  go_ret
  exact made_of HO3.out Hb3.out
/-- What the document's Open hands back. -/
def ROpened (w : World) (ys : List Nat) (er : Nat) (e : Ending) (w' : World) : Prop :=
  ∃ a c, e = .returned (.tuple #[.slice a ys.length c, .int .i64 (er : Nat)]) ∧ BytesIn w' a ys ∧ Below w.heap.size w w'
end Go.Proofs.YtjnhcanohefjiaaGreatDoor
