/- A node's small calls: find, child, hasTooMany, hasTooFew, canSpare. -/
import Derived.Test.YtagamkahfiackaaGreatDoorVFind
namespace Go.Proofs.YtagamkahfiackaaGreatDoor
open Go.RowKit Go.Sort

set_option maxRecDepth 100000 in
theorem find_ {w : World} {M : Nat → Option Nd} {q : Nat} {n : Nd} (h : Store w M) (hq : M q = some n) (hs : Srt n.its) (hn : n.its.length ≤ 1000) (k : ByteArray) :
    Calls Tryz.prog 40 #[.pointer (some ⟨q, 0, none⟩), .string k] w (FindTo w n.its k) := by
  obtain ⟨c1, _, _, _⟩ := h.cells hq
  have HB := Lib.hid (bin_ (h.its q n hq).items hs hn k)
  clear h hq hs hn
  generalize n.iv = v at *
  go_enter Tryz.func40, Tryz.ntmps40
  go_wp2_with (first | (go_at_call 57; refine HB.out.mono ?_; rintro e w' ⟨i, b, rfl, hf, hb⟩; have HF := Lib.hid hf; have HW := Lib.hid hb; clear hf hb) | fail)
  go_ret2
  exact ⟨i, b, rfl, HF.out, HW.out⟩
set_option maxRecDepth 100000 in
theorem child_none {w : World} {M : Nat → Option Nd} {q : Nat} {n : Nd} (h : Store w M) (hq : M q = some n) (hk : n.ks = []) (i : Int) :
    Calls Tryz.prog 41 #[.pointer (some ⟨q, 0, none⟩), .int .i64 i] w fun e w' => e = .returned (.pointer none) ∧ w' = w := by
  obtain ⟨_, c1, _, _⟩ := h.cells hq
  obtain ⟨a, c, hv, _⟩ := row_shape (h.ks q n hq)
  rw [hk] at hv
  rw [hv] at c1
  clear h hq hk hv
  go_enter Tryz.func41, Tryz.ntmps41
  go_wp2_with fail
  go_ret
  exact ⟨rfl, rfl⟩
set_option maxRecDepth 100000 in
theorem child_at {w : World} {M : Nat → Option Nd} {q : Nat} {n : Nd} {K1 K2 : List Nat} {p : Nat} (h : Store w M) (hq : M q = some n) (hK : n.ks = K1 ++ p :: K2) :
    Calls Tryz.prog 41 #[.pointer (some ⟨q, 0, none⟩), .int .i64 K1.length] w fun e w' => e = .returned (pt p) ∧ w' = w := by
  obtain ⟨_, c1, _, _⟩ := h.cells hq
  obtain ⟨g, c, hcv, hgl, hp, hpf, hc63⟩ := h.kid hq hK
  rw [hcv] at c1
  clear h hq hK hcv
  unfold pt at *
  generalize K1.length = k1 at *
  generalize K2.length = k2 at *
  have hne : ¬ ((k1 : Int) + (k2 : Int) + 1 = 0) := by omega
  go_enter Tryz.func41, Tryz.ntmps41
  go_wp2_with fail
  go_ret
  exact ⟨rfl, rfl⟩
theorem items_cell {w : World} {M : Nat → Option Nd} {q : Nat} {n : Nd} (h : Store w M) (hq : M q = some n) : ∃ a c, w.cell? ⟨q, 0, none⟩ = some (.slice a n.its.length c) := by
  obtain ⟨c1, _, _, _⟩ := h.cells hq
  obtain ⟨a, c, hv, _⟩ := row_shape (h.its q n hq)
  exact ⟨a, c, by rw [c1, hv]⟩
theorem hasTooMany_ {w : World} {M : Nat → Option Nd} {q : Nat} {n : Nd} (h : Store w M) (hq : M q = some n) :
    Calls Tryz.prog 51 #[.pointer (some ⟨q, 0, none⟩)] w fun e w' => e = .returned (.bool (decide (7 < n.its.length))) ∧ w' = w := by
  obtain ⟨a, c, c1⟩ := items_cell h hq
  generalize n.its.length = l at *
  clear h hq
  go_enter Tryz.func51, Tryz.ntmps51
  go_wp2_with fail
  go_ret
  exact ⟨by simp; omega, rfl⟩
theorem hasTooFew_ {w : World} {M : Nat → Option Nd} {q : Nat} {n : Nd} (h : Store w M) (hq : M q = some n) :
    Calls Tryz.prog 76 #[.pointer (some ⟨q, 0, none⟩)] w fun e w' => e = .returned (.bool (decide (n.its.length < 3))) ∧ w' = w := by
  obtain ⟨a, c, c1⟩ := items_cell h hq
  generalize n.its.length = l at *
  clear h hq
  go_enter Tryz.func76, Tryz.ntmps76
  go_wp2_with fail
  go_ret
  exact ⟨by simp; omega, rfl⟩
theorem canSpare_ {w : World} {M : Nat → Option Nd} {q : Nat} {n : Nd} (h : Store w M) (hq : M q = some n) :
    Calls Tryz.prog 77 #[.pointer (some ⟨q, 0, none⟩)] w fun e w' => e = .returned (.bool (decide (3 < n.its.length))) ∧ w' = w := by
  obtain ⟨a, c, c1⟩ := items_cell h hq
  generalize n.its.length = l at *
  clear h hq
  go_enter Tryz.func77, Tryz.ntmps77
  go_wp2_with fail
  go_ret
  exact ⟨by simp; omega, rfl⟩
end Go.Proofs.YtagamkahfiackaaGreatDoor
