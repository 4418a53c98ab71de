/- An area cleaned as the document does it, whole sectors compared and written: where it begins with the row it is what the program does. -/
import Derived.Test.YtjnhcanohefjiaaGreatDoorJMath
namespace Go.Proofs.YtjnhcanohefjiaaGreatDoor

theorem fillC_full {xs : List Nat} (h : xs.length ≤ 64) : (fillC xs).length = 64 := by simp [fillC]; omega
theorem fillC_twice {xs : List Nat} (h : xs.length ≤ 64) : fillC (fillC xs) = fillC xs := by
  have hl := fillC_full h
  show fillC xs ++ List.replicate (64 - (fillC xs).length) 0 = fillC xs
  rw [hl]; simp
theorem write_full (d : Dev) (k : Pl) {xs : List Nat} (h : xs.length ≤ 64) : writeD d k (fillC xs) = writeD d k xs := by
  unfold writeD
  rw [fillC_twice h, fillC_full h]
  have e1 : ¬ 64 < xs.length := by omega
  simp only [e1, Nat.lt_irrefl]
theorem wErr_full (d : Dev) (k : Pl) {n : Nat} (h : n ≤ 64) : wErr d k 64 = wErr d k n := by
  unfold wErr
  have e1 : ¬ 64 < n := by omega
  simp only [e1, Nat.lt_irrefl]
theorem nought_of_fill {c xs : List Nat} (h : c = fillC xs) : nought (c.drop xs.length) = true := by
  rw [h]
  unfold fillC nought
  rw [List.drop_left]
  simp
/-- One sector cleaned as the document does it. -/
def rclStep (a : Ar) (row : List Nat) (i : Nat) (s : Dev × Bool × Nat) : Dev × Bool × Nat :=
  if s.2.2 ≠ 0 then s
  else if rErr s.1 (atJ a i) ≠ 0 then (s.1, s.2.1, rErr s.1 (atJ a i))
  else if readD s.1 (atJ a i) = fillC (partJ row i) then s
  else if wErr s.1 (atJ a i) 64 ≠ 0 then (writeD s.1 (atJ a i) (fillC (partJ row i)), s.2.1, wErr s.1 (atJ a i) 64)
  else (writeD s.1 (atJ a i) (fillC (partJ row i)), true, 0)
def rclS (a : Ar) (row : List Nat) (d : Dev) : Nat → Dev × Bool × Nat
  | 0 => (d, false, 0)
  | i + 1 => rclStep a row i (rclS a row d i)
theorem rcl_eq {d0 : Dev} {a : Ar} {row : List Nat} (hok : okD d0) (hp : d0.pend = []) (hc : d0.crashed = false) (hin : inJ d0 a) (hx : ∀ x ∈ row, x < 256) (hb : Begins d0 a row) : ∀ i, i ≤ a.s.toNat → rclS a row d0 i = clnS a row d0 i
  | 0, _ => rfl
  | i + 1, hi => by
    have ih := rcl_eq hok hp hc hin hx hb i (by omega)
    have hI := cln_inv hok hp hc hin hx hb i (by omega)
    show rclStep a row i (rclS a row d0 i) = clnStep a row i (clnS a row d0 i)
    rw [ih]
    generalize clnS a row d0 i = s at hI ⊢
    have hle := partJ_le row i
    unfold rclStep clnStep
    rw [write_full _ _ hle, wErr_full _ _ hle]
    have hsame : readD s.1 (atJ a i) = readD d0 (atJ a i) := hI.wk.same hp (fun j _ hj => atJ_ne (by omega))
    have hlen : (readD s.1 (atJ a i)).length = 64 := (okC_read hI.wk.ok _).1
    have hbeg : (readD s.1 (atJ a i)).take (partJ row i).length = partJ row i := by rw [hsame]; exact hb i (by omega)
    by_cases hn : nought ((readD s.1 (atJ a i)).drop (partJ row i).length) = true
    · have he := nought_fill hlen hbeg hn
      rw [if_pos he, if_pos hn]
    · have he : ¬ readD s.1 (atJ a i) = fillC (partJ row i) := fun e => hn (nought_of_fill e)
      rw [if_neg he, if_neg hn]
/-- The sectors written as the document does it: all are gone through, and those passed over that are safe, or behind the row. -/
def rwrS (a : Ar) (row : List Nat) (sf : Nat) (d : Dev) : Nat → Dev × Nat
  | 0 => (d, 0)
  | i + 1 => if (rwrS a row sf d i).2 ≠ 0 then rwrS a row sf d i else if 64 * i + 63 < sf ∨ row.length ≤ 64 * i then rwrS a row sf d i else (writeD (rwrS a row sf d i).1 (atJ a i) (partJ row i), wErr (rwrS a row sf d i).1 (atJ a i) (partJ row i).length)
theorem rwr_skip (a : Ar) (row : List Nat) (sf : Nat) (d : Dev) : ∀ i, i ≤ sf / 64 → rwrS a row sf d i = (d, 0)
  | 0, _ => rfl
  | i + 1, hi => by
    have ih := rwr_skip a row sf d i (by omega)
    unfold rwrS
    rw [ih, if_neg (by simp), if_pos (.inl (by omega))]
theorem rwr_mid (a : Ar) (row : List Nat) (sf : Nat) (d : Dev) (hs : sf < row.length) : ∀ k, k ≤ cntJ row sf → rwrS a row sf d (sf / 64 + k) = wrtS a row (sf / 64) d k
  | 0, _ => rwr_skip a row sf d _ (Nat.le_refl _)
  | k + 1, hk => by
    have ih := rwr_mid a row sf d hs k (by omega)
    have h1 : ¬ (64 * (sf / 64 + k) + 63 < sf ∨ row.length ≤ 64 * (sf / 64 + k)) := by
      unfold cntJ at hk
      omega
    rw [show sf / 64 + (k + 1) = (sf / 64 + k) + 1 from rfl]
    unfold rwrS wrtS
    rw [ih, if_neg h1]
theorem rwr_rest (a : Ar) (row : List Nat) (sf : Nat) (d : Dev) (hs : sf < row.length) : ∀ k, rwrS a row sf d (sf / 64 + cntJ row sf + k) = wrtS a row (sf / 64) d (cntJ row sf)
  | 0 => rwr_mid a row sf d hs _ (Nat.le_refl _)
  | k + 1 => by
    have ih := rwr_rest a row sf d hs k
    have h1 : 64 * (sf / 64 + cntJ row sf + k) + 63 < sf ∨ row.length ≤ 64 * (sf / 64 + cntJ row sf + k) := .inr (by unfold cntJ; omega)
    rw [show sf / 64 + cntJ row sf + (k + 1) = (sf / 64 + cntJ row sf + k) + 1 from rfl]
    unfold rwrS
    rw [ih, if_pos h1]
    split <;> rfl
theorem rwr_eq (a : Ar) (row : List Nat) (sf : Nat) (d : Dev) (hs : sf < row.length) {n : Nat} (hl : row.length ≤ 64 * n) : rwrS a row sf d n = wrtS a row (sf / 64) d (cntJ row sf) := by
  have h := (cnt_le hs hl).2
  obtain ⟨k, hk⟩ : ∃ k, n = sf / 64 + cntJ row sf + k := ⟨n - (sf / 64 + cntJ row sf), by omega⟩
  rw [hk]
  exact rwr_rest a row sf d hs k
end Go.Proofs.YtjnhcanohefjiaaGreatDoor
