/- What the library's variables hold for lex's calls of strconv and strings; those calls. -/
import Derived.Test.YtfmpnakonffkcaaGreatDoorLxMem
import Derived.Test.YtfmpnakonffkcaaGreatDoorPShelf
import Derived.Lib.LaidTab
import Derived.Lib.AtoiErrMem
namespace Go.Proofs.YtfmpnakonffkcaaGreatDoor
open Go.RowKit Go.Sort

/-- What the library's own variables hold: a number of its kind, the powers of ten, two errors. -/
def Env (w : World) : Prop := (∃ m, w.cell? ⟨2, 0, none⟩ = some (.int .i64 m)) ∧ Lib.TabIs Tryz.prog w "internal/strconv.uint64pow10" .u64 Lib.pow10Tab ∧ ∃ e3, w.cell? ⟨6, 0, none⟩ = some e3 ∧ (e3 = .nilIface ∨ ∃ te pe, e3 = .iface te pe)
theorem gPow : Tryz.prog.globalNamed "internal/strconv.uint64pow10" = some 7 := by kernel_rfl
theorem Env.on {w w' : World} (h : Env w) (hb : Below w.heap.size w w') : Env w' := by
  obtain ⟨⟨m, hm⟩, ht, e3, h3, k3⟩ := h
  refine ⟨⟨m, (hb.cell (block_lt_of_cell hm)).trans hm⟩, ?_, e3, (hb.cell (block_lt_of_cell h3)).trans h3, k3⟩
  exact var?_below hb gPow (by unfold Lib.TabIs at ht; exact block_lt_of_cell (World.var?_cell gPow ht 0 |>.trans rfl)) ht
theorem below_grow' (w : World) (k : Nat) (os : Array Obj) : Below w.heap.size w (grow (w.drewN k) os) :=
  ⟨rfl, rfl, rfl, by show w.heap.size ≤ (w.heap ++ os).size; rw [Array.size_append]; omega, fun j hj => by show (w.heap ++ os)[j]? = w.heap[j]?; exact Array.getElem?_append_left hj⟩
theorem itoa_ (n : Int) (w : World) (hn : inI n) (h : Env w) : Calls Tryz.prog 45 #[.int .i64 n] w fun e w' => e = .returned (.string (ofL (Lib.itoa n))) ∧ Below w.heap.size w w' := by
  refine (Tryz.strconv_Itoa n hn.1 hn.2 w h.2.1).mono fun e w' ⟨he, k, os, hw⟩ => ⟨he, ?_⟩
  subst hw
  exact below_grow' w k os
theorem countB_le1 (s : ByteArray) (c : UInt8) : Lib.countB s ⟨#[c]⟩ ≤ s.size := Lib.countB_le ⟨#[c]⟩ (Nat.le_refl _) s.size s (Nat.le_refl _)
/-- Quotes doubled. -/
theorem doubled_ (t : ByteArray) (w : World) (hl : t.size ≤ 1000000000) (h : Env w) : Calls Tryz.prog 46 #[.string t, .string ⟨#[39]⟩, .string ⟨#[39, 39]⟩] w fun e w' => e = .returned (.string (ofL (dbl (lst t)))) ∧ Below w.heap.size w w' := by
  obtain ⟨⟨m, hm⟩, _⟩ := h
  have hc := countB_le1 t 39
  refine (Tryz.strings_ReplaceAll t ⟨#[39]⟩ ⟨#[39, 39]⟩ m w (by omega) hm (by decide) (by show t.size + Lib.countB t ⟨#[39]⟩ * 2 ≤ _; omega)).mono fun e w' ⟨he, hb⟩ => ⟨he.trans ?_, hb⟩
  rw [show (⟨#[39]⟩ : ByteArray).data.toList = [39] from rfl, show (⟨#[39, 39]⟩ : ByteArray).data.toList = [39, 39] from rfl, doubles]
  rfl
/-- Quotes that stand double made one. -/
theorem undoubled_ (s : ByteArray) (w : World) (hs : s.size ≤ 1000000000) (h : Env w) : Calls Tryz.prog 46 #[.string s, .string ⟨#[39, 39]⟩, .string ⟨#[39]⟩] w fun e w' => e = .returned (.string (ofL (Lib.replaceAll (lst s) [39, 39] [39]))) ∧ Below w.heap.size w w' := by
  obtain ⟨⟨m, hm⟩, _⟩ := h
  have hc : Lib.countB s ⟨#[39, 39]⟩ ≤ s.size := Lib.countB_le ⟨#[39, 39]⟩ (by decide) s.size s (Nat.le_refl _)
  exact Tryz.strings_ReplaceAll s ⟨#[39, 39]⟩ ⟨#[39]⟩ m w (by omega) hm (by decide) (by show s.size + Lib.countB s ⟨#[39, 39]⟩ * 1 ≤ _; omega)
/-- The number that digits are, or an error. -/
def AtoiTo (w : World) (s : ByteArray) (e : Ending) (w' : World) : Prop :=
  ((numV (lst s) < 9223372036854775808 ∧ e = .returned (.tuple #[.int .i64 (numV (lst s) : Nat), .nilIface])) ∨ (¬ numV (lst s) < 9223372036854775808 ∧ ∃ n ty v, e = .returned (.tuple #[.int .i64 n, .iface ty v]))) ∧ Below w.heap.size w w'
theorem atoi_ (s : ByteArray) (w : World) (hs : s.size ≤ 1000000000) (h0 : 0 < s.size) (hd : ∀ c ∈ lst s, isDig c = true) (h : Env w) : Calls Tryz.prog 54 #[.string s] w (AtoiTo w s) := by
  obtain ⟨_, _, e3, h3, k3⟩ := h
  obtain ⟨c, r, e⟩ : ∃ c r, lst s = c :: r := by
    cases e : lst s with
    | nil => rw [size_lst, e] at h0; simp at h0
    | cons c r => exact ⟨c, r, rfl⟩
  have ha : Lib.atoiAll (lst s) = if numV (lst s) < 9223372036854775808 then .ok (numV (lst s) : Nat) else .range := by
    rw [e]; exact atoi_dig (by rw [← e]; exact hd)
  by_cases hv : numV (lst s) < 9223372036854775808
  · rw [if_pos hv] at ha
    refine (Tryz.strconv_Atoi_ok s (by omega) _ ha w).mono ?_
    rintro e w' ⟨he, rfl | ⟨t, rfl⟩⟩
    · exact ⟨.inl ⟨hv, he⟩, Below.refl _ _⟩
    · exact ⟨.inl ⟨hv, he⟩, Lib.bytesWorld_below _ _ _⟩
  · rw [if_neg hv] at ha
    refine (Tryz.strconv_Atoi_range s (by omega) ha e3 w h3 k3).mono ?_
    rintro e w' ⟨N, he, _, _, hb⟩
    exact ⟨.inr ⟨hv, _, _, _, he⟩, hb⟩
/-- Small letters. -/
theorem lower_ (s : ByteArray) (w : World) (hs : s.size ≤ 1000000000) (ha : ∀ c ∈ lst s, ofW c = true) : Calls Tryz.prog 28 #[.string s] w fun e w' => e = .returned (.string (ofL ((lst s).map low))) ∧ Below w.heap.size w w' := by
  refine (Tryz.strings_ToLower_ascii s w (by omega) (fun j b hb => ?_)).mono fun e w' ⟨he, hb⟩ => ⟨he.trans ?_, hb⟩
  · have := ha b (List.mem_of_getElem? hb)
    simp only [ofW, letB, isDig, Bool.or_eq_true, Bool.and_eq_true, decide_eq_true_eq] at this
    omega
  · rw [lower_low]; rfl
theorem pfx_ (s p : ByteArray) (w : World) : Calls Tryz.prog 31 #[.string s, .string p] w fun e w' => e = .returned (.bool (Lib.hasPrefix (lst s) (lst p))) ∧ w' = w := Tryz.strings_HasPrefix s p w
end Go.Proofs.YtfmpnakonffkcaaGreatDoor
