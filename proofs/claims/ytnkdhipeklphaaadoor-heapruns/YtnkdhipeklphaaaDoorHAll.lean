/- The walk of a queue's All: a row cloned, put in order, its items told. -/
import Derived.Test.YtnkdhipeklphaaaDoorHQ3
import Derived.Test.YtnkdhipeklphaaaDoorHSort
import Derived.Lib.SliceRun
namespace Go.Proofs.YtnkdhipeklphaaaDoor
open Go.RowKit Go.Sort Go.Shelf

/-! ### A row of slots, cloned -/
theorem ptrs_one (n : Nat) (b : Nat → Nat) : ∀ u ∈ ptrs n b, u.oneCell' = true := by
  intro u hu
  obtain ⟨k, _, rfl⟩ := List.mem_map.1 hu
  rfl
set_option maxHeartbeats 1000000 in
theorem clone_ {w : World} {N : Nat} {v : Value} {n : Nat} {b : Nat → Nat} (h : Row w N v n b) (hn : n ≤ 17592186044416) :
    Calls Tryd.prog 28 #[v] w fun e w' => ∃ v', e = .returned v' ∧ Row w' w.heap.size v' n b ∧ Below w.heap.size w w' := by
  have q1 : ∀ (w : World) (a : Option Addr) (n c n' c' : Nat), (binOp .eql 51 (.slice a n c) (.slice none n' c')).run Tryd.prog w = .ok (.bool a.isNone) w := fun w a n c n' c' => Lib.run_eql_slice_nil w _ _ a n c n' c' Tryd.underlying51
  rcases h with ⟨rfl, rfl⟩ | ⟨g, cap, c, rfl, hN, hg, hnc, hcm, hsz, hc⟩
  · go_enter Tryd.func28, Tryd.ntmps28
    go_wp2_with fail
    go_ret
    exact ⟨_, rfl, .inl ⟨rfl, rfl⟩, Below.refl _ _⟩
  · obtain ⟨i0, hi, hz0, hz1, hz2⟩ := info_parts info56
    have HNW : Hid (∀ W, Below w.heap.size w W → ∀ j u, (ptrs n b)[j]? = some u → W.cell? ((⟨g, 0, none⟩ : Addr).add j) = some u) := fun W hW j u hj => by
      have hjn : j < n := by
        rcases Nat.lt_or_ge j n with hl | hl
        · exact hl
        · rw [List.getElem?_eq_none (by rw [ptrs_len]; exact hl)] at hj; cases hj
      rw [ptrs_get hjn] at hj
      cases hj
      rw [Addr.add_lit, Nat.zero_add]
      have hg' := (hW.block g (blk_lt hg)).trans hg
      exact cell_of hg' (hc j hjn)
    have hlen := ptrs_len n b
    clear hc hsz hcm
    go_enter Tryd.func28, Tryd.ntmps28
    go_wp2_with (first
      | (at_builtin; refine wpList_append_own _ rfl _ _ 51 rfl w.heap.size 56 i0 (.pointer none) 1 8 Tryd.underlying51 hi hz0 hz1 hz2 rfl (by decide) _ _ _ rfl (World.ownsRow_made w #[] 0 (Nat.le_refl _) (Nat.zero_le _) (by simp)) ⟨g, 0, none⟩ n cap (ptrs n b) rfl (by rw [hlen]; omega) (HNW.out _ ((Below.refl _ _).alloc (Nat.le_refl _) _)) (ptrs_one n b) (by unfold maxLen; omega) (by omega) (by simp) ?_)
      | fail)
    intro v' w2 hown hgrow _
    have HR := Lib.hid (Row.back hown)
    have HB : Hid (Below w.heap.size w w2) := by
      refine ⟨hgrow.os, hgrow.tape, hgrow.output, Nat.le_trans (by simp) hgrow.size, fun k hk => ?_⟩
      refine (hgrow.block k (by simp; omega) (fun e => ?_)).trans (((Below.refl _ _).alloc (Nat.le_refl _) _ : Below w.heap.size w (w.alloc (.cells #[] 56))).block k hk)
      simp only [Value.ownBlock, Option.some.injEq] at e
      omega
    clear hown hgrow HNW
    go_wp2_with fail
    go_ret
    exact ⟨v', rfl, HR.out, HB.out⟩
/-! ### A row of slots put in order -/
theorem swo_sl {f : Nat → Sl} : SWO (ltOf fun x y : Nat => cmpS (f x) (f y)) where
  irrefl x := by unfold ltOf; have := ordered_sl.refl (f x); simp [this]
  trans x y z h1 h2 := by
    unfold ltOf at *
    have h1 : cmpS (f x) (f y) < 0 := of_decide_eq_true h1
    have h2 : cmpS (f y) (f z) < 0 := of_decide_eq_true h2
    exact decide_eq_true (ordered_sl.le_lt _ _ _ (by omega) h2)
  ntrans x y z h1 h2 := by
    unfold ltOf at *
    have h1 : ¬ cmpS (f x) (f y) < 0 := of_decide_eq_false h1
    have h2 : ¬ cmpS (f y) (f z) < 0 := of_decide_eq_false h2
    refine decide_eq_false fun h3 => ?_
    have h3 : cmpS (f x) (f z) < 0 := h3
    have a1 := ordered_sl.anti (f x) (f y)
    have a2 := ordered_sl.anti (f y) (f z)
    have := ordered_sl.le_le (f z) (f y) (f x) (by omega) (by omega)
    have a3 := ordered_sl.anti (f x) (f z)
    omega
theorem sortWorld_far {α : Type} [Inhabited α] (enc : α → Value) (w : World) (blk off m : Nat) (dk : Array α) (os : Array Obj) (k : Nat) (hk : k < w.heap.size) (hne : k ≠ blk) : (sortWorld enc w blk off m dk os).heap[k]? = w.heap[k]? := by
  unfold sortWorld grow putRow mapBlock Sort.ahead
  simp only
  rw [Array.getElem?_append_left (by simpa using hk), Array.getElem?_modify, if_neg (fun e => hne e.symm)]
/-- A row that was put in order. -/
def InOrder (w w' : World) (blk n : Nat) (b : Nat → Nat) (S : Nat → Sl) : Prop := ∃ d' : Array Nat, d'.toList.Perm (List.range n) ∧ (∀ i j, i < j → j < n → ¬ cmpS (S (b (d'[j]! % n))) (S (b (d'[i]! % n))) < 0) ∧ (∀ k, k < n → w'.cell? ⟨blk, k, none⟩ = some (pt (b (d'[k]! % n)))) ∧ (∀ k, k < w.heap.size → k ≠ blk → w'.heap[k]? = w.heap[k]?) ∧ w'.os = w.os ∧ w'.tape = w.tape ∧ w'.output = w.output ∧ w.heap.size ≤ w'.heap.size
set_option maxHeartbeats 1000000 in
theorem sort_ {w : World} {blk cap n : Nat} {c : Array Value} {b : Nat → Nat} {S : Nat → Sl} (hg : w.heap[blk]? = some (.cells c 56 (0, 0))) (hc : ∀ k, k < n → c[k]? = some (pt (b k))) (hs : ∀ k, k < n → SlotAt w (b k) (S (b k)) k) (hn0 : 0 < n) (hn : n ≤ 17592186044416) :
    Calls Tryd.prog 29 #[.slice (some ⟨blk, 0, none⟩) n cap, .func (.func 30) #[] #[]] w fun e w' => e = .returned (.tuple #[]) ∧ InOrder w w' blk n b S := by
  have hblk := blk_lt hg
  have hH : Holds (fun k : Nat => pt (b (k % n))) w blk 0 (Array.range n) := fun j hj => by
    rw [Array.size_range] at hj
    have e : (Array.range n)[j]! = j := by rw [getElem!_pos _ j (by simpa using hj)]; simp
    rw [e, Nat.zero_add]
    show w.cell? _ = some (pt (b (j % n))) ∧ _
    rw [Nat.mod_eq_of_lt hj]
    exact ⟨cell_of hg (hc j hj), frozen_of hg⟩
  have hsz : (Array.range n).size = n := Array.size_range
  have eg : ∀ args w, (callFunc 30 args).run Tryd.prog w = .ok (.enter 30 args) w := enters_of Tryd.func30 (by kernel_rfl) rfl
  have hcmp : CmpLays1 Tryd.prog 30 #[] (fun k : Nat => pt (b (k % n))) (fun x y => cmpS (S (b (x % n))) (S (b (y % n)))) blk 0 (Array.range n).size w := fun m os dk _ x y => by
    have hx := Nat.mod_lt x hn0
    have hy := Nat.mod_lt y hn0
    have far : ∀ k, k < n → SlotAt (sortWorld (fun k : Nat => pt (b (k % n))) w blk 0 m dk os) (b k) (S (b k)) k := fun k hk => by
      have hne : b k ≠ blk := fun e => by have := hs k hk; rw [SlotAt, e, hg] at this; simp at this
      show _ = _
      rw [sortWorld_far _ _ _ _ _ _ _ _ (slot_lt (hs k hk)) hne]
      exact hs k hk
    exact compare_ _ _ _ _ _ _ _ (far _ hx) (far _ hy)
  have h1 : OneCell (fun k : Nat => pt (b (k % n))) := fun _ => rfl
  have hlim : Lib.bitLen n < 4611686018427387904 := Nat.lt_of_le_of_lt (Lib.bitLen_le n 62 (by omega) (by omega)) (by omega)
  have hp := Any.pdqsortCmpFunc_all Tryd.pdqSlot (fun k : Nat => pt (b (k % n))) (fun x y => cmpS (S (b (x % n))) (S (b (y % n)))) 30 #[] (swo_sl (f := fun x => S (b (x % n)))) blk 0 cap (Array.range n) w eg hcmp ⟨h1, hH, hblk⟩ (n + 1) 0 n (Lib.bitLen n) (Array.range n) w (by omega) rfl (SW.start hH) (Nat.zero_le _) (by rw [hsz]; exact Nat.le_refl _) (by rw [hsz]; omega) hlim (Or.inl rfl)
  rw [hsz] at hp
  have hp : Hid (Calls Tryd.prog 38 #[.slice (some ⟨blk, 0, none⟩) n cap, .int .i64 ((0 : Nat) : Int), .int .i64 (n : Int), .int .i64 ((Lib.bitLen n : Nat) : Int), .func (.func 30) #[] #[]] w fun e w' => e = .returned (.tuple #[]) ∧ SW (fun k : Nat => pt (b (k % n))) w blk 0 (pdq (ltOf fun x y => cmpS (S (b (x % n))) (S (b (y % n)))) (Array.range n) 0 n (Lib.bitLen n) true true) w') := hp
  have hl : Hid (Calls Tryd.prog 39 #[.int .u64 (n : Int)] w fun e w' => e = .returned (.int .i64 ((Lib.bitLen n : Nat) : Int)) ∧ w' = w) := by
    have h := Any.bits_Len (SlLaysF0.n15.bits Tryd.bitsLen) (n : Int) w (by omega) (by omega)
    rwa [Int.toNat_natCast] at h
  have hsorts := pdq_sorts (ltOf fun x y => cmpS (S (b (x % n))) (S (b (y % n)))) (swo_sl (f := fun x => S (b (x % n)))) (Array.range n) 0 n (Lib.bitLen n) true true (Nat.zero_le _) (by rw [hsz]; exact Nat.le_refl _) (Or.inl rfl)
  have HS := Lib.hid hsorts
  have HH := Lib.hid hH
  have wr : IntKind.u64.wrap (n : Int) = n := by simp [IntKind.wrap, IntKind.bits, IntKind.signed]; omega
  clear hH hcmp h1 hs hc hg hsorts
  go_enter Tryd.func29, Tryd.ntmps29
  go_wp2_with (first | (go_at_call 39; refine hl.out.mono ?_; rintro e w0 ⟨rfl, rfl⟩) | (go_at_call 38; refine hp.out.mono ?_; rintro e w' ⟨rfl, hsw⟩))
  have hin : InOrder w0 w' blk n b S := by
    obtain ⟨m, os, hw'⟩ := hsw
    obtain ⟨hP, hSo⟩ := HS.out
    refine ⟨pdq (ltOf fun x y => cmpS (S (b (x % n))) (S (b (y % n)))) (Array.range n) 0 n (Lib.bitLen n) true true, ?_, fun i j hij hj => ?_, fun k hk => ?_, fun k hk hne => ?_, ?_, ?_, ?_, ?_⟩
    · have h2 := hP.2.2
      have ex : ∀ a : Array Nat, a.size = n → a.extract 0 n = a := fun a h => by rw [← h]; exact Array.extract_size
      rw [ex _ hsz, ex _ (by rw [hP.1, hsz]), Array.toList_range] at h2
      exact h2
    · exact of_decide_eq_false (hSo i j (Nat.zero_le _) hij hj)
    · rw [hw']
      have h3 := holds_sortWorld _ w0 blk 0 m (Array.range n) _ os hblk HH.out (by rw [hP.1]) k (by rw [hP.1, hsz]; exact hk)
      rw [Nat.zero_add] at h3
      exact h3.1
    · rw [hw']; exact sortWorld_far _ _ _ _ _ _ _ _ hk hne
    · rw [hw']; rfl
    · rw [hw']; rfl
    · rw [hw']; rfl
    · rw [hw']; unfold sortWorld grow putRow mapBlock Sort.ahead; simp
  have HIN := Lib.hid hin
  clear hin hsw
  go_end0
  exact ⟨rfl, HIN.out⟩
end Go.Proofs.YtnkdhipeklphaaaDoor
