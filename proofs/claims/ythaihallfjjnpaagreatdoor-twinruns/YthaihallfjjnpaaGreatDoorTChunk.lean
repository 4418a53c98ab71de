/- slices.Chunk at bytes: its iterator hands parts of 64 bytes on. -/
import Derived.Test.YthaihallfjjnpaaGreatDoorDKeys
import Derived.Test.YthaihallfjjnpaaGreatDoorJ1
import Derived.RangeFuncWrites
import Derived.RangeFuncBox
import Derived.RangeFuncLeaves
import Derived.Shelf.Abstract
import Derived.WalkKit
import Derived.OwnWalkIn
import Derived.TacticsInMore
import Derived.LoopNIn
import Derived.LoopIn
import Derived.Sort.QuietIn
namespace Go.Proofs.YthaihallfjjnpaaGreatDoor
open Go.RowKit Go.Sort Go.Maps Go.Shelf

attribute [local go_sem] Oper.semAt_some
/-- How long the part number x is; the part as a value. -/
def pLen (len x : Nat) : Nat := min 64 (len - 64 * x)
def pEnc (b off len : Nat) (x : Nat) : Array Value := #[.slice (some ⟨b, off + 64 * x, none⟩) (pLen len x) (pLen len x)]
/-- What a round must keep: the two boxes. -/
def KpC (B1 B2 : Nat) (W W' : World) : Prop := W'.heap[B1]? = W.heap[B1]? ∧ W'.heap[B2]? = W.heap[B2]?
theorem kpC_t {B1 B2 : Nat} {A B C : World} (h : KpC B1 B2 A B) (k : KpC B1 B2 B C) : KpC B1 B2 A C := ⟨k.1.trans h.1, k.2.trans h.2⟩
theorem cell_same {w w' : World} {b o : Nat} (e : w'.heap[b]? = w.heap[b]?) : w'.cell? ⟨b, o, none⟩ = w.cell? ⟨b, o, none⟩ := by simp [World.cell?, e]
theorem abides_drew {β : Type} {B : Nat} {J : β → World → Prop} (h : AbidesFrom B J) {s : β} {W : World} (hs : J s W) : J s W.drew := h s W W.drew none hs (grown_drew W none) (fun r e => by cases e)
theorem abides_drewN {β : Type} {B : Nat} {J : β → World → Prop} (h : AbidesFrom B J) {s : β} {W : World} (hs : J s W) (n : Nat) : J s (W.drewN n) := h s W (W.drewN n) none hs ⟨rfl, rfl, rfl, Nat.le_refl _, fun _ _ _ => rfl⟩ (fun r e => by cases e)
theorem wraps_i64' (n : Nat) (h : n ≤ 9223372036854775807) : IntKind.i64.wrap (n : Int) = n := by rw [IntKind.wrap_i64]; omega
set_option maxRecDepth 100000 in
set_option maxHeartbeats 2000000 in
theorem chunk1_in (n : Nat) (hn : 1 ≤ n) (l B1 B2 b off len cap : Nat) (hlen : len ≤ 1073741824) (hcap : len ≤ cap) (J Jx : List Nat → World → Prop)
    (hY : ∀ pre x W, J pre W → pre.length < (len + 63) / 64 → YieldAt Fence.wide (n - 1) Tryz.prog l (pEnc b off len x) W fun e W' => (e = .returned (.bool true) ∧ J (pre ++ [x]) W' ∧ KpC B1 B2 W W') ∨ (e = .returned (.bool false) ∧ Jx (pre ++ [x]) W'))
    (W : World) (hJ : AbidesFrom W.heap.size J) (h1 : W.cell? ⟨B1, 0, none⟩ = some (.slice (some ⟨b, off, none⟩) len cap)) (h2 : W.cell? ⟨B2, 0, none⟩ = some (.int .i64 64)) (h0 : J [] W) :
    CallsIn Fence.wide n Tryz.prog 78 #[.func (.yield l) #[] #[], .pointer (some ⟨B1, 0, none⟩), .pointer (some ⟨B2, 0, none⟩)] W fun e W' => (∃ v, e = .returned v) ∧ ((∃ ys, ys = List.range ((len + 63) / 64) ∧ J ys W') ∨ (∃ pre, (∃ k, k ≤ (len + 63) / 64 ∧ pre = List.range k) ∧ Jx pre W')) := by
  refine callsIn_of_wp Tryz.func78 rfl (wide_fn _) ?_ wide_round
  simp only [Tryz.ntmps78, List.size_toArray, List.length_cons, List.length_nil, Nat.reduceAdd, Nat.reduceSub, Array.replicate_succ, Array.replicate_zero, List.push_toArray, List.append_toArray, List.nil_append, List.cons_append]
  gi_wp2
  gi_loopw [4] (fun i wr => ∃ k : Nat, k ≤ (len + 63) / 64 ∧ i = .int .i64 (64 * k : Nat) ∧ Hid (J (List.range k) wr) ∧ Hid (AbidesFrom W.heap.size J) ∧ wr.cell? ⟨B1, 0, none⟩ = some (.slice (some ⟨b, off, none⟩) len cap) ∧ wr.cell? ⟨B2, 0, none⟩ = some (.int .i64 64)) (fun i _ => (len + 63) / 64 - (intOf i).toNat / 64)
  case atStart => exact ⟨0, Nat.zero_le _, rfl, h0, hJ, h1, h2⟩
  case round =>
    obtain ⟨k, hk, rfl, HJs, HA, x1, x2⟩ := hrel
    clear h1 h2 h0 hJ
    by_cases hlt : 64 * k < len
    · have hlt2 : ((64 * k : Nat) : Int) < (len : Int) := by omega
      have hkc : ¬ cap = 64 * k := by omega
      obtain ⟨m, hm⟩ : ∃ m, m = pLen len k := ⟨_, rfl⟩
      have hm1 : (if ((len - 64 * k : Nat) : Int) < 64 then ((len - 64 * k : Nat) : Int) else 64) = (m : Int) := by rw [hm]; unfold pLen; split <;> omega
      have hm2 : 1 ≤ m ∧ m ≤ 64 ∧ 64 * k + m ≤ len := by rw [hm]; unfold pLen; omega
      have HM := Lib.hid hm
      clear hm
      gi_wp2
      gi_quiet (fail)
      have hJ2 := abides_drewN HA.out HJs.out nq
      have y1 : (wr.drewN nq).cell? ⟨B1, 0, none⟩ = some (.slice (some ⟨b, off, none⟩) len cap) := x1
      have y2 : (wr.drewN nq).cell? ⟨B2, 0, none⟩ = some (.int .i64 64) := x2
      generalize wr.drewN nq = W2 at *
      clear HJs x1 x2
      obtain ⟨fn, tmps, assign, body, hy, hR⟩ := hY (List.range k) k W2 hJ2 (by rw [List.length_range]; omega)
      unfold pEnc at hy
      rw [← HM.out] at hy
      have HR := Lib.hid hR
      clear hR hJ2
      have e1 : ((64 * k : Nat) : Int) + (m : Int) = ((64 * k + m : Nat) : Int) := by omega
      have z1 := wraps_i64' (64 * k + m) (by omega)
      have z2 := wraps_i64' (64 * (k + 1)) (by omega)
      gi_wp2
      refine HR.out.mono ?_
      rintro e W3 (⟨rfl, hJ3, hk3⟩ | ⟨rfl, hJx3⟩)
      · have c1 : W3.cell? ⟨B1, 0, none⟩ = some (.slice (some ⟨b, off, none⟩) len cap) := (cell_same hk3.1).trans y1
        have c2 : W3.cell? ⟨B2, 0, none⟩ = some (.int .i64 64) := (cell_same hk3.2).trans y2
        have HJ3 := Lib.hid hJ3
        clear hJ3 hk3 HR y1 y2 hy
        gi_wp2
        go_roundw
        case rel => exact ⟨k + 1, by omega, by go_num, by rw [List.range_succ]; exact HJ3, HA, c1, c2⟩
        case measure => simp [intOf]; omega
      · have HJ3 := Lib.hid hJx3
        clear hJx3 HR
        gi_wp2
        refine bodyPost_ret (results_none rfl _ _ _) rfl ?_
        exact ⟨⟨_, rfl⟩, .inr ⟨_, ⟨k + 1, by omega, List.range_succ.symm⟩, HJ3.out⟩⟩
    · have hlt2 : ¬ ((64 * k : Nat) : Int) < (len : Int) := by omega
      obtain rfl : k = (len + 63) / 64 := by omega
      gi_wp2
      go_end0
      exact ⟨⟨_, rfl⟩, .inl HJs.out⟩
theorem chunk_stops (n : Nat) (hn : 1 ≤ n) (B1 B2 b off len cap : Nat) (hlen : len ≤ 1073741824) (hcap : len ≤ cap) (w : World) (hb1 : B1 < w.heap.size) (hb2 : B2 < w.heap.size) (h1 : w.cell? ⟨B1, 0, none⟩ = some (.slice (some ⟨b, off, none⟩) len cap)) (h2 : w.cell? ⟨B2, 0, none⟩ = some (.int .i64 64)) :
    SeqStopsK Fence.wide n Tryz.prog 78 #[.pointer (some ⟨B1, 0, none⟩), .pointer (some ⟨B2, 0, none⟩)] (pEnc b off len) (KpC B1 B2) (fun ys => ys = List.range ((len + 63) / 64)) (fun pre => ∃ k, k ≤ (len + 63) / 64 ∧ pre = List.range k) ((len + 63) / 64) w := fun l J Jx W hW hJ _ hY h0 =>
  chunk1_in n hn l B1 B2 b off len cap hlen hcap J Jx hY W hJ ((hW.cell (p := ⟨B1, 0, none⟩) hb1).trans h1) ((hW.cell (p := ⟨B2, 0, none⟩) hb2).trans h2) h0
set_option maxHeartbeats 1000000 in
theorem chunk_ (a : Option Addr) (len cap : Nat) (w : World) :
    Calls Tryz.prog 60 #[.slice a len cap, .int .i64 64] w fun e w' => e = .returned (.func (.func 78) #[] #[.pointer (some ⟨w.heap.size, 0, none⟩), .pointer (some ⟨w.heap.size + 1, 0, none⟩)]) ∧ w' = (w.alloc (.cells #[.slice a len cap] 37)).alloc (.cells #[.int .i64 64] 3) := by
  go_enter Tryz.func60, Tryz.ntmps60
  go_wp2_with fail
  go_ret
  exact ⟨rfl, rfl⟩
end Go.Proofs.YthaihallfjjnpaaGreatDoor
