/- The walk of the law CrcSums. -/
import Derived.Test.YtjgkoamhmmofbaaRef
import Derived.Test.YtjgkoamhmmofbaaLay
import Derived.Deep.RegionHeld3
namespace Go.Proofs.Ytjgkoamhmmofbaa
open Go.RowKit Go.Sort

set_option maxRecDepth 100000 in
set_option maxHeartbeats 4000000 in
theorem sums_ (n : Nat) (a : Option Addr) (xs : List Nat) (c : Nat) (w : World) (h : BytesIn w a xs) (hx : ∀ x ∈ xs, x < 256) (hc : a = none → c = 0) (hlim : xs.length ≤ 140737488351232) (hn : n < 4294967296) :
    Calls Try.prog 3 #[.int .u32 n, .slice a xs.length c] w fun e w' => e = .returned (.bool true) ∧ Below w.heap.size w w' := by
  have HT : Hid (∀ W, BytesIn W a xs → Calls Try.prog 7 #[.slice a xs.length c] W (Made W xs)) := fun W hW => twin_ a xs c W hW hc (by omega)
  have HU : Hid (∀ W a' c', BytesIn W a' xs → Calls Try.prog 6 #[.int .u32 n, .slice a' xs.length c'] W fun e w' => e = .returned (.int .u32 (sm n xs : Nat)) ∧ Below W.heap.size W w') := fun W a' c' hW => upd_ n a' xs c' W hW hx hn (by omega)
  have HS : Hid (∀ W a' c', BytesIn W a' xs → Calls Try.prog 9 #[.slice a' xs.length c'] W fun e w' => e = .returned (.int .u32 (sm 0 xs : Nat)) ∧ Below W.heap.size W w') := fun W a' c' hW => sum_ a' xs c' W hW hx (by omega)
  have HR : Hid (∀ W, BytesIn W a xs → Calls Try.prog 8 #[.int .u32 n, .slice a xs.length c] W fun e w' => e = .returned (.int .u32 (sm n xs : Nat)) ∧ w' = W) := fun W hW => rupd_ n a xs c W hW hx hn (by omega)
  have HR0 : Hid (∀ W, BytesIn W a xs → Calls Try.prog 8 #[.int .u32 0, .slice a xs.length c] W fun e w' => e = .returned (.int .u32 (sm 0 xs : Nat)) ∧ w' = W) := fun W hW => rupd_ 0 a xs c W hW hx (by decide) (by omega)
  have HSU : Hid (∀ W, Calls Try.prog 12 #[] W fun e w' => e = .returned (.bool true) ∧ Below W.heap.size W w') := sure_
  have HB := Lib.hid h
  clear h hx hc
  generalize sm n xs = s1 at *
  generalize sm 0 xs = s0 at *
  have hk0 : (n : Int) % 256 = ((n % 256 : Nat) : Int) := by omega
  have hk1 : n % 256 < 256 := Nat.mod_lt _ (by decide)
  generalize n % 256 = k at *
  have hk2 : (k : Int) % 256 = (k : Int) := by omega
  have HK : Hid (∀ W, Calls Try.prog 10 #[.int .u8 k] W fun e w' => e = .returned (.int .u32 (dvs 8 k : Nat)) ∧ w' = W) := fun W => rem_ k W hk1
  have HRK : Hid (∀ W, Calls Try.prog 11 #[.int .u32 k] W fun e w' => e = .returned (.int .u32 (dvs 8 k : Nat)) ∧ w' = W) := fun W => rrem_ k W (by omega)
  generalize dvs 8 k = d at *
  obtain ⟨len, hlen⟩ : ∃ len, xs.length = len := ⟨_, rfl⟩
  have HM : Hid (∀ W e w', Made W xs e w' → ∃ a c, e = .returned (.slice a len c) ∧ BytesIn w' a xs ∧ Below W.heap.size W w') := fun W e w' hh => by
    obtain ⟨a, c, h1, _, h3, _, h5⟩ := hh
    exact ⟨a, c, by rw [← hlen]; exact h1, h3, h5⟩
  rw [hlen] at hlim HT HU HS HR HR0 ⊢
  clear hlen
  go_enter Try.func3, Try.ntmps3
  go_wp2_with fail
  refine (HT.out w HB.out).mono ?_
  intro e w1 hM
  obtain ⟨a1, c1, rfl, hB1, hb1⟩ := HM.out _ _ _ hM
  have HB1 := Lib.hid hB1
  have Hb1 := Lib.hid hb1
  clear hM hB1 hb1
  go_wp2_with fail
  refine (HU.out w1 _ _ HB1.out).mono ?_
  rintro e w2 ⟨rfl, hb2⟩
  have Hb2 := Lib.hid (below_step Hb1.out hb2)
  clear hb2 HB1 Hb1
  go_wp2_with fail
  refine (HR.out w2 (HB.out.on Hb2.out)).mono ?_
  rintro e w2' ⟨rfl, rfl⟩
  go_wp2_with fail
  refine (HT.out _ (HB.out.on Hb2.out)).mono ?_
  intro e w3 hM
  obtain ⟨a3, c3, rfl, hB3, hb3⟩ := HM.out _ _ _ hM
  have HB3 := Lib.hid hB3
  have Hb3 := Lib.hid (below_step Hb2.out hb3)
  clear hM hB3 hb3 Hb2
  go_wp2_with fail
  refine (HS.out w3 _ _ HB3.out).mono ?_
  rintro e w4 ⟨rfl, hb4⟩
  have Hb4 := Lib.hid (below_step Hb3.out hb4)
  clear hb4 HB3 Hb3
  go_wp2_with fail
  refine (HR0.out w4 (HB.out.on Hb4.out)).mono ?_
  rintro e w4' ⟨rfl, rfl⟩
  go_wp2_with fail
  refine (HK.out _).mono ?_
  rintro e w4'' ⟨rfl, rfl⟩
  go_wp2_with fail
  refine (HRK.out _).mono ?_
  rintro e w4'' ⟨rfl, rfl⟩
  go_wp2_with fail
  refine (HSU.out _).mono ?_
  rintro e w5 ⟨rfl, hb5⟩
  have Hb5 := Lib.hid (below_step Hb4.out hb5)
  clear hb5 Hb4
  go_wp2_with fail
  go_ret
  exact ⟨rfl, Hb5.out⟩
end Go.Proofs.Ytjgkoamhmmofbaa
