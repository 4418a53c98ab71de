/- twin.read: the bytes of sectors, one behind the other. -/
import Derived.Test.YthaihallfjjnpaaGreatDoorDRead
import Derived.Test.YthaihallfjjnpaaGreatDoorJ1
import Derived.Test.YthaihallfjjnpaaGreatDoorTArea
namespace Go.Proofs.YthaihallfjjnpaaGreatDoor
open Go.RowKit Go.Sort Go.Maps

theorem Own.cap {w : World} {base n c : Nat} {a : Option Addr} {xs : List Nat} (h : Own w base (.slice a n c) xs) : n ≤ c := by
  rcases h.2 with ⟨e, _⟩ | ⟨g, cap, cur, e, _, _, hc, _⟩
  · cases e; exact Nat.le_refl _
  · cases e; exact hc
theorem secsB_zero (d : Dev) (g f : Int) : secsB d g f 0 = [] := rfl
set_option maxRecDepth 100000 in
set_option maxHeartbeats 2000000 in
theorem tread_bad {w : World} {p aa bb : Nat} {d : Dev} {K : Nat} (h : DevIn w p aa bb d K) (g f : Int) (n : Nat) (hn : 1 ≤ n) (hl : n ≤ 16384) (hk : hasD d (g, f)) (hc : d.crashed = true) (hf : f ≤ 16384) :
    Calls Tryz.prog 50 #[.pointer (some ⟨p, 0, none⟩), .int .i64 g, .int .i64 f, .int .i64 n] w fun e w' => e = .returned (.tuple #[.slice none 0 0, errV 60]) ∧ Below w.heap.size w w' := by
  obtain ⟨i0, hi, hz0, hz1, hz2⟩ := info_parts infoB
  have HR : Hid (∀ W, Below w.heap.size w W → Calls Tryz.prog 71 #[.pointer (some ⟨p, 0, none⟩), .int .i64 g, .int .i64 f] W fun e w' => e = .returned (.tuple #[.slice none 0 0, .iface 56 (.int .i64 60)]) ∧ Below W.heap.size W w') := fun W hW =>
    (read_crashed (h.on hW) (g, f) hk hc).mono fun e w' he => he
  have f1 : 0 ≤ f := hk.2.2.1
  clear h hk hc
  have e60 : errV 60 = .iface 56 (.int .i64 60) := rfl
  rw [e60]
  have hn0 : (0 : Int) < (n : Int) := by omega
  go_enter Tryz.func50, Tryz.ntmps50
  go_wp2_with (first
    | (at_make; refine wpList_make_own _ rfl _ _ _ rfl w.heap.size 5 i0 _ 1 Tryz.underlying37 hi hz0 hz1 .i64 .i64 _ (64 * n) rfl rfl (by simp; omega) (by rw [hz2]; omega) (by unfold maxLen; omega) (Nat.le_refl _) ?_
       intro w1 hown hgrow
       have hb := Lib.hid ((Below.refl w.heap.size w).grown hgrow (Nat.le_refl _) (fun k hk => by cases hk))
       clear hown hgrow)
    | fail)
  go_loopw [10, 18] (fun ov iv wr => iv = .int .i64 0 ∧ wr = w1) (fun _ iv _ => 0)
  case atStart => exact ⟨rfl, rfl⟩
  case round =>
    obtain ⟨rfl, rfl⟩ := hrel
    go_wp2_with (first | (go_at_call 71; refine (HR.out _ hb.out).mono ?_; rintro e w2 ⟨rfl, hb2⟩) | fail)
    go_ret2
    exact ⟨rfl, below_step hb.out hb2⟩
set_option maxRecDepth 100000 in
set_option maxHeartbeats 2000000 in
theorem tread_ok {w : World} {p aa bb : Nat} {d : Dev} {K : Nat} (h : DevIn w p aa bb d K) (g f : Int) (n : Nat) (hl : n ≤ 16384) (hk : ∀ i : Nat, i < n → hasD d (g, f + i)) (hc : d.crashed = false) (hf0 : 0 ≤ f) (hf : f ≤ 16384) :
    Calls Tryz.prog 50 #[.pointer (some ⟨p, 0, none⟩), .int .i64 g, .int .i64 f, .int .i64 n] w fun e w' => ∃ a c, e = .returned (.tuple #[.slice a (64 * n) c, .nilIface]) ∧ BytesIn w' a (secsB d g f n) ∧ 64 * n ≤ c ∧ Below w.heap.size w w' := by
  obtain ⟨i0, hi, hz0, hz1, hz2⟩ := info_parts infoB
  have HR : Hid (∀ W (i : Nat), i < n → Below w.heap.size w W → Calls Tryz.prog 71 #[.pointer (some ⟨p, 0, none⟩), .int .i64 g, .int .i64 (f + i)] W (GotC W (readD d (g, f + i)))) := fun W i hi hW => read_ok (h.on hW) (g, f + i) (hk i hi) hc
  have HL : Hid (∀ i, (secsB d g f i).length = 64 * i) := secsB_len h.ok g f
  have HC : Hid (∀ i : Nat, (readD d (g, f + i)).length = 64) := fun i => (okC_read h.ok _).1
  clear h hk hc
  go_enter Tryz.func50, Tryz.ntmps50
  go_wp2_with (first
    | (at_make; refine wpList_make_own _ rfl _ _ _ rfl w.heap.size 5 i0 _ 1 Tryz.underlying37 hi hz0 hz1 .i64 .i64 _ (64 * n) rfl rfl (by simp; omega) (by rw [hz2]; omega) (by unfold maxLen; omega) (Nat.le_refl _) ?_
       intro w1 hown hgrow
       have HB := Lib.hid ((Below.refl w.heap.size w).grown hgrow (Nat.le_refl _) (fun k hk => by cases hk))
       have HO : Hid (Own w1 w.heap.size (.slice (some ⟨w.heap.size, 0, none⟩) 0 (64 * n)) []) := hown
       clear hown hgrow)
    | fail)
  go_loopw [10, 18] (fun ov iv wr => ∃ i : Nat, iv = .int .i64 i ∧ i ≤ n ∧ Hid (Own wr w.heap.size ov (secsB d g f i)) ∧ Hid (Below w.heap.size w wr)) (fun _ iv _ => n - (intOf iv).toNat)
  case atStart => exact ⟨0, rfl, Nat.zero_le _, HO, HB⟩
  case round =>
    obtain ⟨i, rfl, hin, HO1, HB1⟩ := hrel
    clear HO HB
    by_cases hlt : i < n
    · have hlt2 : (i : Int) < (n : Int) := by omega
      have hwr := wraps_i64 (f + i) (by omega) (by omega)
      have HL1 := HL.out i
      go_wp2_with (first
        | (go_at_call 71; refine (HR.out _ i hlt HB1.out).mono ?_; rintro e w2 ⟨gg, rfl, hgg, hgb, hb2⟩
           have HO2 := Lib.hid (HO1.out.on hb2)
           have HB2 := Lib.hid (below_step HB1.out hb2)
           have HG := Lib.hid (ct_bytes 5 hgb)
           clear hgg hgb hb2)
        | (at_builtin; refine wpList_append_bytes _ rfl _ _ rfl w.heap.size _ (secsB d g f i) (readD d (g, f + i)) rfl HO2.out (some ⟨gg, 0, none⟩) 64 64 rfl (HC.out i) (by simp) HG.out (by rw [HL1, HC.out i]; omega) HB2.out.size ?_
           intro v' w3 hown hgrow
           have HO3 := Lib.hid hown
           have HB3 := Lib.hid (below_grow HB2.out HO2.out hgrow)
           clear hown hgrow)
        | fail)
      go_roundw
      case rel => exact ⟨i + 1, by go_num, by omega, by rw [secsB_snoc]; exact HO3, HB3⟩
      case measure => simp [intOf]; omega
    · have hlt2 : ¬ (i : Int) < (n : Int) := by omega
      obtain rfl : i = n := by omega
      obtain ⟨a, c, hv, hby, hno⟩ := HO1.out.bytes
      subst hv
      have hcap := HO1.out.cap
      have HL1 := HL.out i
      rw [HL1] at hcap ⊢
      have HE := Lib.hid (And.intro hby hcap)
      clear hby hcap hno HL1
      go_wp2_with fail
      go_ret2
      exact ⟨a, c, rfl, HE.out.1, HE.out.2, HB1.out⟩
end Go.Proofs.YthaihallfjjnpaaGreatDoor
