/- A line of texts: pushed into, the first one taken off; numbers and texts behind slices. -/
import Derived.Test.YtnkdhipeklphaaaHQ2
namespace Go.Proofs.Ytnkdhipeklphaaa
open Go.RowKit Go.Sort

/-- A line that holds what a list in order holds. -/
def Li (w : World) (N hb : Nat) (r : List Sl) : Prop := ∃ v n b S, Ln w N hb 45 [] v n b S ∧ Hp kle (fun k => S (b k)) n ∧ Cont (fun k => S (b k)) n r ∧ Srt r
theorem Li.on {w w' : World} {N hb : Nat} {r : List Sl} (h : Li w N hb r) (hb' : Below w.heap.size w w') : Li w' N hb r := by
  obtain ⟨v, n, b, S, h1, h2⟩ := h
  exact ⟨v, n, b, S, h1.on hb', h2⟩
theorem Li.len {w : World} {N hb : Nat} {r : List Sl} (h : Li w N hb r) : r.length ≤ 17592186044416 ∧ ∃ a c, w.cell? ⟨hb, 0, none⟩ = some (.slice a r.length c) := by
  obtain ⟨v, n, b, S, h1, h2, h3, h4⟩ := h
  obtain ⟨a, c, rfl, _⟩ := h1.len
  rw [h3.2.2.2]
  exact ⟨h1.lim, a, c, h1.head.1⟩
theorem li_new {w : World} {N : Nat} (hN : N ≤ w.heap.size) : Li (w.alloc (.cells #[.slice none 0 0] 45)) N w.heap.size [] :=
  ⟨.slice none 0 0, 0, fun _ => 0, fun _ => ⟨0, 0, ⟨#[]⟩, 0⟩, ⟨heap_alloc_new w _, by decide, by decide, hN, .inl ⟨rfl, rfl⟩, fun k hk => by omega, by omega⟩, fun k _ h => by omega, cont_nil _, List.Pairwise.nil⟩
/-- A slot is pushed. -/
theorem li_push {w0 w : World} {N hb B p : Nat} {r : List Sl} {x : Sl} (h : Li w0 N hb r) (hw : Below w0.heap.size w0 w) (hB : w0.heap.size ≤ B) (hNB : N ≤ B) (hs : SlotAt w B x p) (hx : ∀ y ∈ r, y.turn ≠ x.turn) (hl : r.length + 1 ≤ 17592186044416) :
    Calls Try.prog 17 #[.iface 47 (.pointer (some ⟨hb, 0, none⟩)), .iface 48 (.pointer (some ⟨B, 0, none⟩))] w fun e w' => e = .returned (.tuple #[]) ∧ Li w' N hb (ins x r) ∧ Fr N hb w w' := by
  obtain ⟨v, n, b, S, h1, h2, h3, h4⟩ := h
  have hn : r.length = n := h3.2.2.2
  have hbB : ∀ k, k < n → b k ≠ B := fun k hk e => by have := slot_lt (h1.slot k hk).2; omega
  have h1' : Ln w N hb 45 [] v n b (upd S B x) := (h1.on hw).congr (fun _ _ => rfl) (fun k hk => upd_old (hbB k hk))
  have h2' : Hp kle (fun k => upd S B x (b k)) n := fun k hk hkn => by
    have hl := par_lt hk
    show kle (upd S B x (b (par k))) (upd S B x (b k))
    rw [upd_old (hbB _ (by omega)), upd_old (hbB k hkn)]
    exact h2 k hk hkn
  refine (kpush_ h1' B p (by rw [upd_at]; exact hs) hNB hbB (by omega) h2').mono ?_
  rintro e w' ⟨rfl, v', b', L4, H4, P4, F4⟩
  refine ⟨rfl, ⟨v', n + 1, b', upd S B x, L4, H4, ?_, srt_ins r h4 hx⟩, F4⟩
  refine P4.cont L4.inj (cont_push (x := x) h3 (fun hm => hx x hm rfl) (by rw [put_at, upd_at]) (fun k hk => by show upd S B x (put b n B k) = S (b k); rw [put_old (by omega), upd_old (hbB k hk)]) (fun y => mem_ins r) (len_ins x r))
/-- The first one is taken off. -/
theorem li_take {w : World} {N hb : Nat} {r : List Sl} {x : Sl} (h : Li w N hb (x :: r)) :
    Calls Try.prog 19 #[.pointer (some ⟨hb, 0, none⟩)] w fun e w' => (∃ B p, e = .returned (.pointer (some ⟨B, 0, none⟩)) ∧ SlotAt w' B x p ∧ N ≤ B) ∧ Li w' N hb r ∧ Fr N hb w w' := by
  obtain ⟨v, n, b, S, h1, h2, h3, h4⟩ := h
  obtain ⟨m, rfl⟩ : ∃ m, n = m + 1 := ⟨r.length, by have := h3.2.2.2; simp at this; omega⟩
  have hx : S (b 0) = x := cont_head h3 h4 h2
  refine (take_ h1 h2).mono ?_
  rintro e w' ⟨rfl, v', b', L4, H4, P4, hbn, S4, F4⟩
  have hpl : ∀ k, k < m + 1 → ∃ s, SlotAt w' (b' k) s k := fun k hk => by
    by_cases e : k = m
    · subst e; rw [hbn]; exact ⟨_, S4⟩
    · exact ⟨_, (L4.slot k (by omega)).2⟩
  have hinj : ∀ i j, i < m + 1 → j < m + 1 → b' i = b' j → i = j := fun i j hi hj e => by
    obtain ⟨s1, k1⟩ := hpl i hi
    obtain ⟨s2, k2⟩ := hpl j hj
    have e1 := k1.cells.2.2.2.2
    rw [e, k2.cells.2.2.2.2] at e1
    simp at e1; omega
  have hc := P4.cont hinj h3
  refine ⟨⟨b 0, m, rfl, by rw [hx] at S4; exact S4, (h1.slot 0 (by omega)).1⟩, ⟨v', m, b', S, L4, H4, ?_, (srt_out (p := []) h4).1⟩, F4⟩
  exact cont_cut (p := []) hc (by rw [hbn]; exact hx) h4
/-- The first one, and where it stands. -/
theorem Li.first {w : World} {N hb : Nat} {r : List Sl} {x : Sl} (h : Li w N hb (x :: r)) : ∃ g c B, w.cell? ⟨hb, 0, none⟩ = some (.slice (some ⟨g, 0, none⟩) (r.length + 1) c) ∧ w.cell? ⟨g, 0, none⟩ = some (.pointer (some ⟨B, 0, none⟩)) ∧ SlotAt w B x 0 ∧ N ≤ B := by
  obtain ⟨v, n, b, S, h1, h2, h3, h4⟩ := h
  have hn : (x :: r).length = n := h3.2.2.2
  have hx : S (b 0) = x := cont_head h3 h4 h2
  obtain ⟨g, cap, c, rfl, _, hg, _, _, _, hc, _⟩ := h1.some (by simp at hn; omega)
  have hs := h1.slot 0 (by simp at hn; omega)
  rw [hx] at hs
  refine ⟨g, cap, b 0, ?_, cell_of hg (hc 0 (by simp at hn; omega)), hs.2, hs.1⟩
  have := h1.head.1
  rw [← hn] at this
  simpa using this
theorem hp_mid3 {α : Type} {le : α → α → Prop} {a b : Nat → α} {n i : Nat} (h : Tot le) (hp : Hp le a n) (hb : ∀ k, k < n → k ≠ i → b k = a k) (hi : i < n) : Mid le b n i := by
  refine ⟨?_, ?_⟩
  · intro k hk hn h1 h2
    have := par_lt hk
    rw [hb k hn h1, hb _ (by omega) h2]
    exact hp k hk hn
  · intro k hk hn h1 hi0
    have := par_lt hk
    have hpi := par_lt hi0
    rw [hb k hn (by omega), hb (par i) (by omega) (by omega)]
    have e := hp k hk hn
    rw [h1] at e
    exact h.trans _ _ _ (hp i hi0 hi) e
/-- Another text in the first one's slot. -/
theorem li_fix {w : World} {N hb g c B : Nat} {r : List Sl} {x x' : Sl} (h : Li w N hb (x :: r)) (hc0 : w.cell? ⟨hb, 0, none⟩ = some (.slice (some ⟨g, 0, none⟩) (r.length + 1) c)) (hg0 : w.cell? ⟨g, 0, none⟩ = some (.pointer (some ⟨B, 0, none⟩))) (e1 : x'.id = x.id) (e2 : x'.rank = x.rank) (e3 : x'.turn = x.turn) (hx : ∀ y ∈ r, y.turn ≠ x'.turn) :
    Calls Try.prog 20 #[.iface 47 (.pointer (some ⟨hb, 0, none⟩)), .int .i64 0] (w.setCell ⟨B, 2, none⟩ (.string x'.text)) fun e w' => e = .returned (.tuple #[]) ∧ Li w' N hb (ins x' r) ∧ Fr N hb w w' := by
  obtain ⟨v, n, b, S, h1, h2, h3, h4⟩ := h
  have hn : (x :: r).length = n := h3.2.2.2
  have hn0 : 0 < n := by simp at hn; omega
  have hx0 : S (b 0) = x := cont_head h3 h4 h2
  obtain ⟨g', cap, cc, rfl, hNg, hg, hnc, hcm, hsz, hcc, hgh, hgb, hhb⟩ := h1.some hn0
  have hb0 : b 0 = B := by
    have k1 := h1.head.1
    rw [hc0] at k1
    simp only [Option.some.injEq, Value.slice.injEq, Addr.mk.injEq, and_true] at k1
    have k2 := cell_of hg (hcc 0 hn0)
    rw [← k1.1, hg0] at k2
    unfold pt at k2
    simp only [Option.some.injEq, Value.pointer.injEq, Addr.mk.injEq, and_true] at k2
    exact k2.symm
  have sl := (h1.slot 0 hn0).2
  have Nb := (h1.slot 0 hn0).1
  rw [hb0] at sl Nb
  have s3 : SlotAt (w.setCell ⟨B, 2, none⟩ (.string x'.text)) B x' 0 := by
    refine (heap_set (o := 2) (.string x'.text) sl).trans ?_
    rw [← hb0, hx0]
    unfold slotC
    rw [e1, e2, e3]
    rfl
  have hold : ∀ k, k < n → k ≠ 0 → upd S B x' (b k) = S (b k) := fun k hk hk0 => upd_old fun e => hk0 (h1.inj k 0 hk hn0 (by rw [hb0]; exact e))
  have hfar : ∀ k : Nat, k ≠ B → (w.setCell ⟨B, 2, none⟩ (.string x'.text)).heap[k]? = w.heap[k]? := fun k hk => heap_far _ hk
  have L3 : Ln (w.setCell ⟨B, 2, none⟩ (.string x'.text)) N hb 45 [] (.slice (some ⟨g', 0, none⟩) n cap) n b (upd S B x') := by
    refine ⟨(hfar hb (by have := hhb 0 hn0; rw [hb0] at this; exact this)).trans h1.hdr, h1.tyS, h1.tyP, h1.low, .inr ⟨g', cap, cc, rfl, hNg, (hfar g' (by have := hgb 0 hn0; rw [hb0] at this; exact this)).trans hg, hnc, hcm, hsz, hcc⟩, fun k hk => ⟨(h1.slot k hk).1, ?_⟩, h1.lim⟩
    by_cases e : k = 0
    · rw [e, hb0, upd_at]; exact s3
    · have hkb : b k ≠ B := fun e' => e (h1.inj k 0 hk hn0 (by rw [hb0]; exact e'))
      rw [hold k hk e]
      exact (hfar (b k) hkb).trans (h1.slot k hk).2
  refine (kfix_ L3 0 hn0 (hp_mid3 tot_kle h2 hold hn0)).mono ?_
  rintro e w' ⟨rfl, b', L4, H4, P4, F4⟩
  have hx'r : x' ∉ r := fun hm => hx x' hm rfl
  have hcont : Cont (fun k => upd S B x' (b k)) n (ins x' r) := by
    have hc : Cont (fun k => if k < n then upd S B x' (b k) else S (b k)) n (ins x' r) :=
      cont_set (a := fun k => S (b k)) (i := 0) (x := x) (x' := x') (p := []) h3 h4 hn0 hx0 hx'r (by show (if 0 < n then _ else _) = x'; rw [if_pos hn0, hb0, upd_at]) (fun k hki => by
        show (if k < n then _ else _) = S (b k)
        split
        · rename_i hk; exact hold k hk hki
        · rfl) (fun y => mem_ins r) (len_ins x' r)
    obtain ⟨k1, k2, k3, k4⟩ := hc
    refine ⟨fun k hk => ?_, fun y hy => ?_, fun j k hj hk e => k3 j k hj hk ?_, k4⟩
    · simpa only [if_pos hk] using k1 k hk
    · obtain ⟨k, hk, e⟩ := k2 y hy
      exact ⟨k, hk, by simpa only [if_pos hk] using e⟩
    · show (if j < n then _ else _) = (if k < n then _ else _); rw [if_pos hj, if_pos hk]; exact e
  exact ⟨rfl, ⟨_, n, b', _, L4, H4, P4.cont L4.inj hcont, srt_ins r (srt_out (p := []) h4).1 hx⟩, (Fr.set _ sl Nb (.inl rfl)).trans F4⟩
theorem ln_keep2 {w w' : World} {N hb : Nat} {ty : TypeId} {rs : List Value} {v : Value} {n : Nat} {b : Nat → Nat} {S : Nat → Sl} (h : Ln w N hb ty rs v n b S) (hk : ∀ (k : Nat) (c : Array Value) (t : TypeId) (z : Nat × Nat), w.heap[k]? = some (.cells c t z) → (t = ty ∨ t = 48 ∨ t = 51) → w'.heap[k]? = w.heap[k]?) : Ln w' N hb ty rs v n b S := by
  refine ⟨(hk _ _ _ _ h.hdr (.inl rfl)).trans h.hdr, h.tyS, h.tyP, h.low, ?_, fun k hkn => ⟨(h.slot k hkn).1, (hk _ _ _ _ (h.slot k hkn).2 (.inr (.inr rfl))).trans (h.slot k hkn).2⟩, h.lim⟩
  rcases h.row with h1 | ⟨g, cap, c, e, h1, h2, h3⟩
  · exact .inl h1
  · exact .inr ⟨g, cap, c, e, h1, (hk _ _ _ _ h2 (.inr (.inl rfl))).trans h2, h3⟩
/-- The line stays while a row of another type grows. -/
theorem li_grown {w w' : World} {N hb base sz n : Nat} {t0 : TypeId} {v : Value} {xs : List Value} {r : List Sl} {o : Obj} (h : Li w N hb r) (ho : w.ownsRow base t0 sz v n xs) (h1 : t0 ≠ 45) (h2 : t0 ≠ 48) (h3 : t0 ≠ 51) (hg : (w.alloc o).grownBy w' v.ownBlock) : Li w' N hb r := by
  obtain ⟨v5, n5, b5, S5, k1, k2⟩ := h
  refine ⟨v5, n5, b5, S5, ln_keep2 k1 (fun q cs t z hq ht => ?_), k2⟩
  have hql := blk_lt hq
  refine (hg.block q (by simp; omega) (fun e => ?_)).trans (((Below.refl _ _).alloc (Nat.le_refl _) o : Below w.heap.size w (w.alloc o)).block q hql)
  rcases ho.2 with ⟨rfl, _⟩ | ⟨g, cap, cur, rfl, _, hgb, _⟩
  · cases e
  · simp only [Value.ownBlock, Option.some.injEq] at e
    subst e
    rw [hgb] at hq
    simp only [Option.some.injEq, Obj.cells.injEq] at hq
    rcases ht with rfl | rfl | rfl
    · exact h1 hq.2.1
    · exact h2 hq.2.1
    · exact h3 hq.2.1
/-! ### Numbers and texts behind slices -/
def TextsAt (w : World) (a : Option Addr) (n : Nat) (g : Nat → ByteArray) : Prop := ∀ i, i < n → ∃ b o, a = some ⟨b, o, none⟩ ∧ w.cell? ⟨b, o + i, none⟩ = some (.string (g i))
theorem TextsAt.on {w w' : World} {N : Nat} {a : Option Addr} {n : Nat} {g : Nat → ByteArray} (h : TextsAt w a n g) (hN : N = w.heap.size) (hb : Below N w w') : TextsAt w' a n g := by
  intro i hi
  obtain ⟨b, o, e, h1⟩ := h i hi
  exact ⟨b, o, e, (hb.cell (by rw [hN]; exact block_lt_of_cell h1)).trans h1⟩
/-- Numbers in a row of one's own. -/
def nums (zs : List Int) : List Value := zs.map fun z => .int .i64 z
def OwnN (w : World) (base : Nat) (v : Value) (zs : List Int) : Prop := w.ownsRow base 3 1 v zs.length (nums zs)
theorem info3 : (Try.prog.info? 3).map (fun i => (i.zero, i.size, i.bytes)) = some (some (.int .i64 0), 1, 8) := by kernel_rfl
theorem one_num (k : Int) : ∀ u ∈ [Value.int .i64 k], u.oneCell' = true := by intro u hu; simp at hu; subst hu; rfl
/-- A text's slot. -/
def txS (i : Nat) (s : ByteArray) : Sl := ⟨i, 0, s, i⟩
set_option maxHeartbeats 400000 in
theorem slot_ (i : Nat) (s : ByteArray) (w : World) : Calls Try.prog 18 #[.int .i64 (i : Int), .string s] w fun e w' => e = .returned (.pointer (some ⟨w.heap.size, 0, none⟩)) ∧ SlotAt w' w.heap.size (txS i s) 0 ∧ Below w.heap.size w w' := by
  go_enter Try.func18, Try.ntmps18
  go_wp2_with fail
  go_ret
  exact ⟨rfl, heap_alloc_new _ _, (Below.refl _ _).alloc (Nat.le_refl _) _⟩
/-- Texts, in order. -/
def lst (g : Nat → ByteArray) : Nat → List Sl
  | 0 => []
  | n + 1 => ins (txS n (g n)) (lst g n)
theorem mem_lst {g : Nat → ByteArray} {x : Sl} : ∀ {n : Nat}, x ∈ lst g n ↔ ∃ k, k < n ∧ x = txS k (g k)
  | 0 => by simp [lst]
  | n + 1 => by
    rw [lst, mem_ins, mem_lst]
    constructor
    · rintro (rfl | ⟨k, hk, rfl⟩)
      · exact ⟨n, by omega, rfl⟩
      · exact ⟨k, by omega, rfl⟩
    · rintro ⟨k, hk, rfl⟩
      by_cases e : k = n
      · subst e; exact .inl rfl
      · exact .inr ⟨k, by omega, rfl⟩
theorem len_lst (g : Nat → ByteArray) : ∀ n, (lst g n).length = n
  | 0 => rfl
  | n + 1 => by rw [lst, len_ins, len_lst g n]
theorem turn_lst {g : Nat → ByteArray} {n : Nat} {y : Sl} (h : y ∈ lst g n) (m : Nat) (hm : n ≤ m) (s : ByteArray) : y.turn ≠ (txS m s).turn := by
  obtain ⟨k, hk, rfl⟩ := mem_lst.1 h
  simp only [txS]
  omega
theorem srt_lst (g : Nat → ByteArray) : ∀ n, Srt (lst g n)
  | 0 => List.Pairwise.nil
  | n + 1 => srt_ins _ (srt_lst g n) (fun _ hy => turn_lst hy n (Nat.le_refl _) _)
end Go.Proofs.Ytnkdhipeklphaaa
