/- What the document's clean and writes take: a device of two regions and twelve sectors; copy of a string that may be longer than the sector. -/
import Derived.Test.YtjnhcanohefjiaaGreatDoorJJK
import Derived.Test.YtjnhcanohefjiaaGreatDoorJPB
import Derived.Test.YtjnhcanohefjiaaGreatDoorJJC
namespace Go.Proofs.YtjnhcanohefjiaaGreatDoor
open Go.RowKit Go.Sort Go.Maps

theorem lt_list_len : ∀ (l : List Nat) (lo n : Nat), l.Pairwise (· < ·) → (∀ x ∈ l, lo ≤ x ∧ x < n) → l.length ≤ n - lo
  | [], _, _, _, _ => Nat.zero_le _
  | x :: r, lo, n, hp, hx => by
    obtain ⟨h1, h2⟩ := List.pairwise_cons.1 hp
    have h0 := hx x List.mem_cons_self
    have ih := lt_list_len r (x + 1) n h2 (fun y hy => ⟨h1 y hy, (hx y (List.mem_cons_of_mem _ hy)).2⟩)
    rw [List.length_cons]
    omega
/-- A device of two regions of twelve sectors knows of no more than these. -/
theorem tie_len {d : Dev} {x : RD} (h : Tie d x) (hrs : d.r = 2 ∧ d.s = 12) : x.l.length ≤ 24 := by
  have hp : (x.l.map (fun y => (y.key.1 * 12 + y.key.2).toNat)).Pairwise (· < ·) := by
    rw [List.pairwise_map]
    refine List.Pairwise.imp_of_mem (fun {a b} ha hb hab => ?_) h.srt
    have ka := (h.ok a ha).2.2
    have kb := (h.ok b hb).2.2
    unfold hasD at ka kb
    unfold ltP at hab
    rw [hrs.1, hrs.2] at ka kb
    omega
  have := lt_list_len _ 0 24 hp (fun v hv => by
    obtain ⟨y, hy, rfl⟩ := List.mem_map.1 hv
    have ky := (h.ok y hy).2.2
    unfold hasD at ky
    rw [hrs.1, hrs.2] at ky
    omega)
  simpa using this
theorem left_write {d : Dev} (k : Pl) (xs : List Nat) (h : 0 ≤ d.left ∧ d.left ≤ 9223372036854775807) : 0 ≤ (writeD d k xs).left ∧ (writeD d k xs).left ≤ 9223372036854775807 := by
  unfold writeD
  split
  · exact h
  · show 0 ≤ (if d.armed = true ∧ d.left ≠ 0 then d.left - 1 else d.left) ∧ (if d.armed = true ∧ d.left ≠ 0 then d.left - 1 else d.left) ≤ _
    split <;> omega
theorem size_write (d : Dev) (k : Pl) (xs : List Nat) : (writeD d k xs).r = d.r ∧ (writeD d k xs).s = d.s := by
  unfold writeD; split <;> exact ⟨rfl, rfl⟩
theorem six_one (r s lf : Int) (a : Option Addr) (n c : Nat) (cr ar : Bool) : (#[.int .i64 r, .int .i64 s, .slice a n c, .bool cr, .bool ar, .int .i64 lf] : Array Value).all (·.oneCell') = true := by simp [Value.oneCell']
/-- The document's list of sectors stays where a block of another type is written. -/
theorem LstS.put {w w' : World} {a : Option Addr} {c b : Nat} {l : List RS} {cs : Array Value} {t : TypeId} (h : LstS w a c l) (hp : Put w b cs t w') (ht : t ≠ 110) (hb : ∃ old z, w.heap[b]? = some (.cells old t z)) : LstS w' a c l :=
  h.stay fun k cs' z hk => hp.far k fun e => by
    obtain ⟨old, z', ho⟩ := hb
    rw [e, ho] at hk
    simp only [Option.some.injEq, Obj.cells.injEq] at hk
    exact ht hk.2.1
theorem sizeB1 : (Tryz.prog.info? 5).map (·.size) = some 1 := by kernel_rfl
set_option maxRecDepth 100000 in
/-- copy of a string into a sector of noughts, however long it is. -/
theorem copy_any {w : World} {g : Nat} {xs : List Nat} (ty : TypeId) (hg : w.heap[g]? = some (.cells (vals zeroC).toArray 5 (0, 0))) (hx : ∀ x ∈ xs, x < 256) :
    ∃ w', (Builtin.copy_ #[53, 9] ty #[.slice (some ⟨g, 0, none⟩) 64 64, .string (bs xs)]).run Tryz.prog w = .ok (goInt ((min xs.length 64 : Nat) : Int)) w' ∧ Put w g (vals (fillC (xs.take 64))).toArray 5 w' := by
  have hl : (xs.take 64).length ≤ 64 := by rw [List.length_take]; omega
  have hlz : (vals zeroC).toArray.size = 64 := by rw [List.size_toArray, vals_len, zero_len]
  have hst := run_storeCells_at Tryz.prog g 0 5 (vals (xs.take 64)) 0 (vals zeroC).toArray w hg (by rw [vals_len, hlz]; omega) (vals_one _)
  have hmin : Nat.min (bs xs).size 64 = min xs.length 64 := by rw [bs_size]
  have htk : List.take (min xs.length 64) (List.map (fun b : UInt8 => Value.int IntKind.u8 (b.toNat : Int)) (bs xs).data.toList) = vals (xs.take 64) := by
    have e := byteCells_bs hx
    unfold Lib.byteCells at e
    rw [e]
    have : vals (xs.take 64) = (vals xs).take 64 := by simp [vals]
    rw [this]
    by_cases h : xs.length ≤ 64
    · rw [Nat.min_eq_left h, List.take_of_length_le (by rw [vals_len]; omega), List.take_of_length_le (by rw [vals_len]; omega)]
    · rw [Nat.min_eq_right (by omega)]
  refine ⟨w.setRow g (vals (fillC (xs.take 64))).toArray, ?_, setRow_heap w g _ _ 5 (0, 0) hg, fun k hk => setRow_other w g k _ hk, by simp [World.setRow], rfl, rfl, rfl⟩
  have hs := sizeB1
  cases hq : Tryz.prog.info? 5 with
  | none => simp [hq] at hs
  | some i =>
    simp [Builtin.copy_, run_underlying Tryz.underlying53, Builtin.lenOf, Builtin.firstCells, sizeOf, typeInfo, hq, hmin]
    rw [htk]
    simp only [Nat.zero_add] at hst
    rw [hst, ← fill_splice (xs.take 64)]
    simp [Result.andThen, splice, vals_len]
/-- One sector cleaned, as the document does it. -/
theorem rcl_step {d0 : Dev} {a : Ar} {row : List Nat} (hok : okD d0) (hp : d0.pend = []) (hc : d0.crashed = false) (hin : inJ d0 a) (hx : ∀ x ∈ row, x < 256) (hb : Begins d0 a row) {i : Nat} (hi : i < a.s.toNat) {D : Dev} {wr : Bool} (h : clnS a row d0 i = (D, wr, 0)) :
    rErr D (atJ a i) = 0 ∧ (readD D (atJ a i) = fillC (partJ row i) → clnS a row d0 (i + 1) = (D, wr, 0)) ∧ (readD D (atJ a i) ≠ fillC (partJ row i) → (wErr D (atJ a i) 64 ≠ 0 → clnS a row d0 (i + 1) = (writeD D (atJ a i) (fillC (partJ row i)), wr, wErr D (atJ a i) 64)) ∧ (wErr D (atJ a i) 64 = 0 → clnS a row d0 (i + 1) = (writeD D (atJ a i) (fillC (partJ row i)), true, 0))) := by
  have hI := cln_inv hok hp hc hin hx hb i (by omega)
  have e1 := rcl_eq hok hp hc hin hx hb i (by omega)
  have e2 := rcl_eq hok hp hc hin hx hb (i + 1) (by omega)
  have e3 : rclS a row d0 (i + 1) = rclStep a row i (rclS a row d0 i) := rfl
  rw [e2, e1, h] at e3
  rw [h] at hI
  have hin' : inJ D a := by
    have r1 := hI.wk.rs
    unfold inJ
    rw [r1.1, r1.2]; exact hin
  have hcr := (hI.good rfl).1
  have hr : rErr D (atJ a i) = 0 := by unfold rErr; rw [if_neg (fun e => e (inJ_has hin' hi)), if_neg (by simpa using hcr)]
  unfold rclStep at e3
  simp only [ne_eq, not_true_eq_false, if_false, hr] at e3
  refine ⟨hr, fun q => ?_, fun q => ⟨fun k => ?_, fun k => ?_⟩⟩
  · rw [if_pos q] at e3; exact e3
  · rw [if_neg q, if_pos k] at e3; exact e3
  · rw [if_neg q, if_neg (by simpa using k)] at e3; exact e3
theorem rcl_done {a : Ar} {row : List Nat} {d D : Dev} {wr : Bool} {n : Nat} (hn : n = a.s.toNat) (h : clnS a row d n = (D, wr, 0)) : cleanD a row d = (if wr = true then syncD D a.g else D) ∧ cleanE a row d = (if wr = true then sErr D a.g else 0) := by
  unfold cleanD cleanE
  rw [← hn, h]
  simp
end Go.Proofs.YtjnhcanohefjiaaGreatDoor
