/- The walks of what makes and what compares values. -/
import Derived.Test.YtfplncbechidnaaGreatDoorChecked
import Derived.Test.YtfplncbechidnaaGreatDoorShelf
import Derived.Test.YtfplncbechidnaaGreatDoorNum
import Derived.WalkKit
import Derived.WalkSpells
import Derived.WalkLawsBesides
import Derived.Lib.QuietBelow
import Derived.Lib.Hide
import Derived.Deep.RegionWith
import Derived.Deep.QuietTactic
import Derived.LoopN
import Derived.WalkSmall
namespace Go.Proofs.YtfplncbechidnaaGreatDoor
open Go.RowKit Go.Sort

theorem ret_bool {a b : Bool} (h : a = b) : Ending.returned (.bool a) = .returned (.bool b) := by rw [h]
theorem ret_int {k : IntKind} {a b : Int} (h : a = b) : Ending.returned (.int k a) = .returned (.int k b) := by rw [h]
/-- A value as it is handed on. -/
def agV (v : Val) : Value := .agg #[.int .i64 v.k, .int .i64 v.n, .string v.t, .bool v.b]

theorem null_ (w : World) : Calls Tryz.prog 8 #[] w fun e w' => e = .returned (.agg #[.int .i64 0, .int .i64 0, .string ⟨#[]⟩, .bool false]) ∧ Below w.heap.size w w' := by
  go_enter Tryz.func8, Tryz.ntmps8
  go_wp2_with fail
  exact bodyPost_ret (v := .agg #[.int .i64 0, .int .i64 0, .string ⟨#[]⟩, .bool false]) (by simp [results, Tryz.results8, go_sem]) rfl ⟨rfl, (Below.refl _ _).alloc (Nat.le_refl _) _⟩
theorem bool_ (b : Bool) (w : World) : Calls Tryz.prog 13 #[.bool b] w fun e w' => e = .returned (.agg #[.int .i64 3, .int .i64 0, .string ⟨#[]⟩, .bool b]) ∧ Below w.heap.size w w' := by
  go_enter Tryz.func13, Tryz.ntmps13
  go_wp2_with fail
  exact bodyPost_ret (v := .agg #[.int .i64 3, .int .i64 0, .string ⟨#[]⟩, .bool b]) (by simp [results, Tryz.results13, go_sem]) rfl ⟨rfl, (Below.refl _ _).alloc (Nat.le_refl _) _⟩
theorem int_ (n : Int) (w : World) : Calls Tryz.prog 9 #[.int .i64 n] w fun e w' => e = .returned (.agg #[.int .i64 1, .int .i64 n, .string ⟨#[]⟩, .bool false]) ∧ Below w.heap.size w w' := by
  go_enter Tryz.func9, Tryz.ntmps9
  go_wp2_with fail
  exact bodyPost_ret (v := .agg #[.int .i64 1, .int .i64 n, .string ⟨#[]⟩, .bool false]) (by simp [results, Tryz.results9, go_sem]) rfl ⟨rfl, (Below.refl _ _).alloc (Nat.le_refl _) _⟩
theorem text_ (t : ByteArray) (w : World) : Calls Tryz.prog 11 #[.string t] w fun e w' => e = .returned (.agg #[.int .i64 2, .int .i64 0, .string t, .bool false]) ∧ Below w.heap.size w w' := by
  go_enter Tryz.func11, Tryz.ntmps11
  go_wp2_with fail
  exact bodyPost_ret (v := .agg #[.int .i64 2, .int .i64 0, .string t, .bool false]) (by simp [results, Tryz.results11, go_sem]) rfl ⟨rfl, (Below.refl _ _).alloc (Nat.le_refl _) _⟩
theorem nanStr_ (s : ByteArray) (w : World) : Calls Tryz.prog 89 #[.string s] w fun e w' => e = .returned (.bool false) ∧ w' = w := by
  go_enter Tryz.func89, Tryz.ntmps89
  go_wp2_with fail
  go_ret
  exact ⟨rfl, rfl⟩
theorem cmpStr_ (s t : ByteArray) (w : World) : Calls Tryz.prog 72 #[.string s, .string t] w fun e w' => e = .returned (.int .i64 (cmpT s.toList t.toList)) ∧ w' = w := by
  by_cases h1 : Op.bytesLess s.toList t.toList = true
  · go_enter Tryz.func72, Tryz.ntmps72
    go_wp2_with (go_at_call 89; refine (nanStr_ _ _).mono ?_; rintro e w' ⟨rfl, rfl⟩)
    go_ret
    exact ⟨ret_int (by rw [cmpT, if_pos h1]), rfl⟩
  · have h1' : Op.bytesLess s.toList t.toList = false := by simpa using h1
    by_cases h2 : s.toList = t.toList
    · obtain rfl := toList_inj h2
      have h2' : (s.toList == s.toList) = true := by simp
      go_enter Tryz.func72, Tryz.ntmps72
      go_wp2_with (go_at_call 89; refine (nanStr_ _ _).mono ?_; rintro e w' ⟨rfl, rfl⟩)
      go_ret
      exact ⟨ret_int (by rw [cmpT, if_neg h1, h1', h2']; rfl), rfl⟩
    · have h2' : (s.toList == t.toList) = false := by simpa using h2
      go_enter Tryz.func72, Tryz.ntmps72
      go_wp2_with (go_at_call 89; refine (nanStr_ _ _).mono ?_; rintro e w' ⟨rfl, rfl⟩)
      go_ret
      exact ⟨ret_int (by rw [cmpT, if_neg h1, h1', h2']; rfl), rfl⟩
theorem rank_ (b : Bool) (w : World) : Calls Tryz.prog 73 #[.bool b] w fun e w' => e = .returned (.int .i64 (rk b)) ∧ w' = w := by
  cases b
  all_goals
    go_enter Tryz.func73, Tryz.ntmps73
    go_wp2_with fail
    go_ret
    exact ⟨rfl, rfl⟩
theorem comp_ (k n : Int) (t : ByteArray) (b : Bool) (k' n' : Int) (t' : ByteArray) (b' : Bool) (w : World) :
    Calls Tryz.prog 52 #[.agg #[.int .i64 k, .int .i64 n, .string t, .bool b], .agg #[.int .i64 k', .int .i64 n', .string t', .bool b']] w fun e w' => e = .returned (.int .i64 (cmpV ⟨k, n, t, b⟩ ⟨k', n', t', b'⟩)) ∧ Below w.heap.size w w' := by
  by_cases hk : k = k'
  · subst hk
    by_cases h1 : k = 1
    · subst h1
      go_enter Tryz.func52, Tryz.ntmps52
      go_wp2_with (go_at_call 71; refine (Tryz.cmp_Compare_int _ _ _).mono ?_; rintro e w' ⟨rfl, rfl⟩)
      go_ret
      exact ⟨rfl, ((Below.refl _ _).alloc (Nat.le_refl _) _).alloc (by simp) _⟩
    by_cases h2 : k = 2
    · subst h2
      go_enter Tryz.func52, Tryz.ntmps52
      go_wp2_with (go_at_call 72; refine (cmpStr_ _ _ _).mono ?_; rintro e w' ⟨rfl, rfl⟩)
      go_ret
      exact ⟨rfl, ((Below.refl _ _).alloc (Nat.le_refl _) _).alloc (by simp) _⟩
    by_cases h3 : k = 3
    · subst h3
      go_enter Tryz.func52, Tryz.ntmps52
      go_wp2_with fail
      go_quiet (first | (go_at_call 73; refine Calls.quiet_of_same (rank_ _ _)) | (go_at_call 71; refine Calls.quiet_of_same (Tryz.cmp_Compare_int _ _ _)))
      go_wp2_with fail
      go_ret
      exact ⟨rfl, below_drewN (((Below.refl _ _).alloc (Nat.le_refl _) _).alloc (by simp) _) _⟩
    · go_enter Tryz.func52, Tryz.ntmps52
      go_wp2_with fail
      go_ret
      exact ⟨ret_int (by simp [cmpV, h1, h2, h3]), ((Below.refl _ _).alloc (Nat.le_refl _) _).alloc (by simp) _⟩
  · go_enter Tryz.func52, Tryz.ntmps52
    go_wp2_with (go_at_call 71; refine (Tryz.cmp_Compare_int _ _ _).mono ?_; rintro e w' ⟨rfl, rfl⟩)
    go_ret
    exact ⟨ret_int (by simp [cmpV, hk]), ((Below.refl _ _).alloc (Nat.le_refl _) _).alloc (by simp) _⟩
/-- Is one of them null? -/
def one0 (k k' : Int) : Bool := k == 0 || k' == 0
theorem oneNull_ (k n : Int) (t : ByteArray) (b : Bool) (k' n' : Int) (t' : ByteArray) (b' : Bool) (w : World) :
    Calls Tryz.prog 53 #[.agg #[.int .i64 k, .int .i64 n, .string t, .bool b], .agg #[.int .i64 k', .int .i64 n', .string t', .bool b']] w fun e w' => e = .returned (.bool (one0 k k')) ∧ Below w.heap.size w w' := by
  by_cases h : k = 0
  · subst h
    go_enter Tryz.func53, Tryz.ntmps53
    go_wp2_with fail
    go_ret
    exact ⟨ret_bool (by simp [one0]), ((Below.refl _ _).alloc (Nat.le_refl _) _).alloc (by simp) _⟩
  · go_enter Tryz.func53, Tryz.ntmps53
    go_wp2_with fail
    go_ret
    exact ⟨ret_bool rfl, ((Below.refl _ _).alloc (Nat.le_refl _) _).alloc (by simp) _⟩
/-- A kind that is asked for, or null's. -/
def isK (q k : Int) : Bool := decide (k = q) || decide (k = 0)
theorem isK_cases (q k : Int) : ((k != q) = false ∧ isK q k = true) ∨ ((k != q) = true ∧ (k != 0) = false ∧ isK q k = true) ∨ ((k != q) = true ∧ (k != 0) = true ∧ isK q k = false) := by
  by_cases h : k = q
  · exact .inl ⟨by simp [h], by simp [isK, h]⟩
  · by_cases h0 : k = 0
    · exact .inr (.inl ⟨by simpa using h, by simp [h0], by simp [isK, h0]⟩)
    · exact .inr (.inr ⟨by simpa using h, by simpa using h0, by simp [isK, h, h0]⟩)
theorem are1_ (q k n : Int) (t : ByteArray) (b : Bool) (blk : Nat) (w : World) (h0 : w.cell? ⟨blk, 0, none⟩ = some (.int .i64 k)) (h1 : w.cell? ⟨blk, 1, none⟩ = some (.int .i64 n)) (h2 : w.cell? ⟨blk, 2, none⟩ = some (.string t)) (h3 : w.cell? ⟨blk, 3, none⟩ = some (.bool b)) :
    Calls Tryz.prog 51 #[.int .i64 q, .slice (some ⟨blk, 0, none⟩) 1 1] w fun e w' => e = .returned (.bool (isK q k)) ∧ Below w.heap.size w w' := by
  rcases isK_cases q k with ⟨hq, hi⟩ | ⟨hq, hz, hi⟩ | ⟨hq, hz, hi⟩
  · go_enter Tryz.func51, Tryz.ntmps51
    go_wp2_with fail
    refine wp_loop_rounds 2 ?_
    rw [rounds_succ]
    go_wp2_with fail
    rw [rounds_succ]
    go_wp2_with fail
    go_ret
    exact ⟨ret_bool (by simp [*]), (Below.refl _ _).alloc (Nat.le_refl _) _⟩
  · go_enter Tryz.func51, Tryz.ntmps51
    go_wp2_with fail
    refine wp_loop_rounds 2 ?_
    rw [rounds_succ]
    go_wp2_with fail
    rw [rounds_succ]
    go_wp2_with fail
    go_ret
    exact ⟨ret_bool (by simp [*]), (Below.refl _ _).alloc (Nat.le_refl _) _⟩
  · go_enter Tryz.func51, Tryz.ntmps51
    go_wp2_with fail
    refine wp_loop_rounds 2 ?_
    rw [rounds_succ]
    go_wp2_with fail
    go_ret
    exact ⟨ret_bool (by simp [*]), (Below.refl _ _).alloc (Nat.le_refl _) _⟩
theorem are2_ (q k n : Int) (t : ByteArray) (b : Bool) (k' n' : Int) (t' : ByteArray) (b' : Bool) (blk : Nat) (w : World) (h0 : w.cell? ⟨blk, 0, none⟩ = some (.int .i64 k)) (h1 : w.cell? ⟨blk, 1, none⟩ = some (.int .i64 n)) (h2 : w.cell? ⟨blk, 2, none⟩ = some (.string t)) (h3 : w.cell? ⟨blk, 3, none⟩ = some (.bool b)) (h4 : w.cell? ⟨blk, 4, none⟩ = some (.int .i64 k')) (h5 : w.cell? ⟨blk, 5, none⟩ = some (.int .i64 n')) (h6 : w.cell? ⟨blk, 6, none⟩ = some (.string t')) (h7 : w.cell? ⟨blk, 7, none⟩ = some (.bool b')) :
    Calls Tryz.prog 51 #[.int .i64 q, .slice (some ⟨blk, 0, none⟩) 2 2] w fun e w' => e = .returned (.bool (isK q k && isK q k')) ∧ Below w.heap.size w w' := by
  have hlt : blk < w.heap.size := block_lt_of_cell h0
  have g4 : ∀ o, (w.alloc o).cell? ⟨blk, 4, none⟩ = some (.int .i64 k') := fun o => by rw [World.cell?_alloc_lt _ _ ⟨blk, 4, none⟩ hlt]; exact h4
  have g5 : ∀ o, (w.alloc o).cell? ⟨blk, 5, none⟩ = some (.int .i64 n') := fun o => by rw [World.cell?_alloc_lt _ _ ⟨blk, 5, none⟩ hlt]; exact h5
  have g6 : ∀ o, (w.alloc o).cell? ⟨blk, 6, none⟩ = some (.string t') := fun o => by rw [World.cell?_alloc_lt _ _ ⟨blk, 6, none⟩ hlt]; exact h6
  have g7 : ∀ o, (w.alloc o).cell? ⟨blk, 7, none⟩ = some (.bool b') := fun o => by rw [World.cell?_alloc_lt _ _ ⟨blk, 7, none⟩ hlt]; exact h7
  clear h4 h5 h6 h7
  rcases isK_cases q k with ⟨hq, hi⟩ | ⟨hq, hz, hi⟩ | ⟨hq, hz, hi⟩
  · rcases isK_cases q k' with ⟨hq', hi'⟩ | ⟨hq', hz', hi'⟩ | ⟨hq', hz', hi'⟩
    · go_enter Tryz.func51, Tryz.ntmps51
      go_wp2_with fail
      refine wp_loop_rounds 3 ?_
      rw [rounds_succ]
      go_wp2_with fail
      rw [rounds_succ]
      go_wp2_with fail
      rw [rounds_succ]
      go_wp2_with fail
      go_ret
      exact ⟨ret_bool (by simp [*]), ((Below.refl _ _).alloc (Nat.le_refl _) _).alloc (by simp) _⟩
    · go_enter Tryz.func51, Tryz.ntmps51
      go_wp2_with fail
      refine wp_loop_rounds 3 ?_
      rw [rounds_succ]
      go_wp2_with fail
      rw [rounds_succ]
      go_wp2_with fail
      rw [rounds_succ]
      go_wp2_with fail
      go_ret
      exact ⟨ret_bool (by simp [*]), ((Below.refl _ _).alloc (Nat.le_refl _) _).alloc (by simp) _⟩
    · go_enter Tryz.func51, Tryz.ntmps51
      go_wp2_with fail
      refine wp_loop_rounds 3 ?_
      rw [rounds_succ]
      go_wp2_with fail
      rw [rounds_succ]
      go_wp2_with fail
      go_ret
      exact ⟨ret_bool (by simp [*]), ((Below.refl _ _).alloc (Nat.le_refl _) _).alloc (by simp) _⟩
  · rcases isK_cases q k' with ⟨hq', hi'⟩ | ⟨hq', hz', hi'⟩ | ⟨hq', hz', hi'⟩
    · go_enter Tryz.func51, Tryz.ntmps51
      go_wp2_with fail
      refine wp_loop_rounds 3 ?_
      rw [rounds_succ]
      go_wp2_with fail
      rw [rounds_succ]
      go_wp2_with fail
      rw [rounds_succ]
      go_wp2_with fail
      go_ret
      exact ⟨ret_bool (by simp [*]), ((Below.refl _ _).alloc (Nat.le_refl _) _).alloc (by simp) _⟩
    · go_enter Tryz.func51, Tryz.ntmps51
      go_wp2_with fail
      refine wp_loop_rounds 3 ?_
      rw [rounds_succ]
      go_wp2_with fail
      rw [rounds_succ]
      go_wp2_with fail
      rw [rounds_succ]
      go_wp2_with fail
      go_ret
      exact ⟨ret_bool (by simp [*]), ((Below.refl _ _).alloc (Nat.le_refl _) _).alloc (by simp) _⟩
    · go_enter Tryz.func51, Tryz.ntmps51
      go_wp2_with fail
      refine wp_loop_rounds 3 ?_
      rw [rounds_succ]
      go_wp2_with fail
      rw [rounds_succ]
      go_wp2_with fail
      go_ret
      exact ⟨ret_bool (by simp [*]), ((Below.refl _ _).alloc (Nat.le_refl _) _).alloc (by simp) _⟩
  · go_enter Tryz.func51, Tryz.ntmps51
    go_wp2_with fail
    refine wp_loop_rounds 3 ?_
    rw [rounds_succ]
    go_wp2_with fail
    go_ret
    exact ⟨ret_bool (by simp [*]), (Below.refl _ _).alloc (Nat.le_refl _) _⟩

/-- Are two values alike? -/
def likeB (k k' : Int) : Bool := (isK 1 k && isK 1 k') || (isK 2 k && isK 2 k') || (isK 3 k && isK 3 k')
end Go.Proofs.YtfplncbechidnaaGreatDoor
