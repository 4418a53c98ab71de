/- The walk of a queue's All. -/
import Derived.Test.YtnkdhipeklphaaaDoorHAll
import Derived.Shelf.SlSortCmp.NoneTotal
namespace Go.Proofs.YtnkdhipeklphaaaDoor
open Go.RowKit Go.Sort Go.Shelf

/-- Items as cells. -/
def itC : List Sl → List Value
  | [] => []
  | x :: r => .int .i64 x.id :: .int .i64 x.rank :: itC r
theorem itC_len : ∀ r, (itC r).length = r.length * 2
  | [] => rfl
  | x :: r => by simp only [itC, List.length_cons, itC_len r]; omega
theorem itC_append : ∀ a b, itC a ++ itC b = itC (a ++ b)
  | [], _ => rfl
  | x :: r, b => by simp only [itC, List.cons_append, itC_append r b]
theorem itC_at : ∀ (r : List Sl) (i : Nat) (h : i < r.length), (itC r)[i * 2]? = some (.int .i64 r[i].id) ∧ (itC r)[i * 2 + 1]? = some (.int .i64 r[i].rank)
  | [], i, h => by simp at h
  | x :: r, 0, _ => ⟨rfl, rfl⟩
  | x :: r, i + 1, h => by
    obtain ⟨h0, h1⟩ := itC_at r i (by simpa using h)
    have e0 : (i + 1) * 2 = i * 2 + 2 := by omega
    rw [e0]
    exact ⟨h0, h1⟩
/-- Items behind a slice. -/
def ItemsIn (w : World) (a : Option Addr) (r : List Sl) : Prop := ∀ i (h : i < r.length), ∃ b o, a = some ⟨b, o, none⟩ ∧ w.cell? ⟨b, o + i * 2, none⟩ = some (.int .i64 (r[i]).id) ∧ w.cell? ⟨b, o + i * 2 + 1, none⟩ = some (.int .i64 (r[i]).rank)
theorem ItemsIn.on {w w' : World} {a : Option Addr} {r : List Sl} (h : ItemsIn w a r) (hb : Below w.heap.size w w') : ItemsIn w' a r := by
  intro i hi
  obtain ⟨b, o, e, h1, h2⟩ := h i hi
  exact ⟨b, o, e, (hb.cell (block_lt_of_cell h1)).trans h1, (hb.cell (block_lt_of_cell h2)).trans h2⟩
theorem srt_two : ∀ {l : List Sl}, Srt l → ∀ {x y : Sl}, x ∈ l → y ∈ l → x = y ∨ klt x y ∨ klt y x
  | [], _, x, y, hx, _ => by simp at hx
  | z :: l, h, x, y, hx, hy => by
    have hz := List.pairwise_cons.1 h
    rcases List.mem_cons.1 hx with ex | hx
    · rcases List.mem_cons.1 hy with ey | hy
      · exact .inl (ex.trans ey.symm)
      · rw [ex]; exact .inr (.inl (hz.1 y hy))
    · rcases List.mem_cons.1 hy with ey | hy
      · rw [ey]; exact .inr (.inr (hz.1 x hx))
      · exact srt_two hz.2 hx hy
/-- What stands in order is what the queue's list says. -/
theorem order_list {w w' : World} {N qb : Nat} {r : List Sl} {t : Nat} {mv v : Value} {n blk : Nat} {b : Nat → Nat} {S : Nat → Sl} (h : Qu w N qb r t mv v n b S) {W : World} (ho : InOrder W w' blk n b S) : ∀ k (hk : k < r.length), ∃ j, j < n ∧ S (b j) = r[k] ∧ w'.cell? ⟨blk, k, none⟩ = some (pt (b j)) := by
  obtain ⟨d', hP, hS, hC, _⟩ := ho
  have hlen := h.len
  have hdl : d'.toList.length = n := by rw [hP.length_eq, List.length_range]
  have hds : d'.size = n := by rw [← Array.length_toList]; exact hdl
  have hmem : ∀ k, k < n → d'[k]! < n := fun k hk => by
    rw [getElem!_pos _ k (by omega)]
    have : d'[k] ∈ d'.toList := by rw [← Array.getElem_toList]; exact List.getElem_mem _
    exact List.mem_range.1 (hP.mem_iff.1 this)
  have hnd : d'.toList.Nodup := hP.nodup_iff.2 List.nodup_range
  have hinj : ∀ i j, i < n → j < n → d'[i]! = d'[j]! → i = j := fun i j hi hj e => by
    rw [getElem!_pos _ i (by omega), getElem!_pos _ j (by omega)] at e
    have hpw := List.pairwise_iff_getElem.1 hnd
    rcases Nat.lt_trichotomy i j with hl | hl | hl
    · exact absurd e (hpw i j (by omega) (by omega) hl)
    · exact hl
    · exact absurd e.symm (hpw j i (by omega) (by omega) hl)
  let xs : List Sl := (List.range n).map fun k => S (b d'[k]!)
  have hxs : xs = r := by
    refine srt_unique _ _ ?_ h.srt fun x => ⟨fun hx => ?_, fun hx => ?_⟩
    · refine List.pairwise_map.2 (List.Pairwise.imp_of_mem ?_ List.pairwise_lt_range)
      intro i j hi hj hij
      have hi' := List.mem_range.1 hi
      have hj' := List.mem_range.1 hj
      have h1 := hS i j hij hj'
      rw [Nat.mod_eq_of_lt (hmem i hi'), Nat.mod_eq_of_lt (hmem j hj')] at h1
      have hne : S (b d'[i]!) ≠ S (b d'[j]!) := fun e => by
        have := hinj i j hi' hj' (h.cont.2.2.1 _ _ (hmem i hi') (hmem j hj') e)
        omega
      rcases srt_two h.srt (h.cont.1 _ (hmem i hi')) (h.cont.1 _ (hmem j hj')) with e | e | e
      · exact absurd e hne
      · exact e
      · exact absurd e h1
    · obtain ⟨k, hk, rfl⟩ := List.mem_map.1 hx
      exact h.cont.1 _ (hmem k (List.mem_range.1 hk))
    · obtain ⟨k, hk, rfl⟩ := h.cont.2.1 x hx
      have : k ∈ d'.toList := hP.mem_iff.2 (List.mem_range.2 hk)
      obtain ⟨i, hi, e⟩ := List.mem_iff_getElem.1 this
      refine List.mem_map.2 ⟨i, List.mem_range.2 (by omega), ?_⟩
      rw [getElem!_pos _ i (by omega), ← Array.getElem_toList, e]
  intro k hk
  have hkn : k < n := by omega
  refine ⟨d'[k]!, hmem k hkn, ?_, ?_⟩
  · have : xs[k]? = some (S (b d'[k]!)) := by simp [xs, hkn]
    rw [hxs, List.getElem?_eq_getElem hk] at this
    exact (Option.some.inj this).symm
  · have := hC k hkn
    rw [Nat.mod_eq_of_lt (hmem k hkn)] at this
    exact this
theorem info37 : (Tryd.prog.info? 37).map (fun i => (i.zero, i.size, i.bytes)) = some (some (.agg #[.int .i64 0, .int .i64 0]), 2, 16) := by kernel_rfl
theorem two_cells (w : World) (x y : Value) (t : TypeId) : ∀ j u, [x, y][j]? = some u → (w.alloc (.cells #[x, y] t)).cell? ((⟨w.heap.size, 0, none⟩ : Addr).add j) = some u := by
  intro j u hj
  match j, hj with
  | 0, hj => simp at hj; subst hj; simp [Addr.add]
  | 1, hj => simp at hj; subst hj; simp [Addr.add]
theorem two_one (x y : Int) : ∀ u ∈ [Value.int .i64 x, Value.int .i64 y], u.oneCell' = true := by
  intro u hu; simp at hu; rcases hu with rfl | rfl <;> rfl
theorem items_of {w : World} {base : Nat} {v : Value} {r : List Sl} (h : w.ownsRow base 37 2 v r.length (itC r)) : ∃ a c, v = .slice a r.length c ∧ ItemsIn w a r := by
  rcases h.2 with ⟨rfl, e⟩ | ⟨g, cap, cur, rfl, _, hg, _, _, _, ht⟩
  · have : r = [] := List.eq_nil_of_length_eq_zero e
    subst this
    exact ⟨none, 0, rfl, fun i hi => by simp at hi⟩
  · refine ⟨_, _, rfl, fun i hi => ⟨g, 0, rfl, ?_, ?_⟩⟩
    · have := (itC_at r i hi).1
      rw [← ht, List.getElem?_take_of_lt (by omega), Array.getElem?_toList] at this
      rw [Nat.zero_add]; exact cell_of hg this
    · have := (itC_at r i hi).2
      rw [← ht, List.getElem?_take_of_lt (by omega), Array.getElem?_toList] at this
      rw [Nat.zero_add]; exact cell_of hg this
theorem owns_on {w w' : World} {base sz : Nat} {ty : TypeId} {v : Value} {n : Nat} {xs : List Value} (h : w.ownsRow base ty sz v n xs) (hb : Below w.heap.size w w') : w'.ownsRow base ty sz v n xs := by
  refine ⟨h.1, ?_⟩
  rcases h.2 with h1 | ⟨g, cap, cur, e, h1, h2, h3⟩
  · exact .inl h1
  · exact .inr ⟨g, cap, cur, e, h1, (hb.block g (blk_lt h2)).trans h2, h3⟩
set_option maxHeartbeats 2000000 in
theorem all_some {w : World} {N qb : Nat} {r : List Sl} {t : Nat} {mv v : Value} {n : Nat} {b : Nat → Nat} {S : Nat → Sl} (h : Qu w N qb r t mv v (n + 1) b S) (hsm : n + 1 ≤ 1000000) :
    Calls Tryd.prog 17 #[.pointer (some ⟨qb, 0, none⟩)] w fun e w' => (∃ a c, e = .returned (.slice a r.length c) ∧ ItemsIn w' a r) ∧ Below w.heap.size w w' := by
  have c0 := h.ln.head.1
  have HC := Lib.hid (clone_ h.ln.row h.ln.lim)
  have HQ := Lib.hid h
  obtain ⟨a, c, rfl, _, _⟩ := h.ln.len
  clear h
  go_enter Tryd.func17, Tryd.ntmps17
  go_wp2_with fail
  refine HC.out.mono ?_
  rintro e w1 ⟨v', rfl, hr1, hb1⟩
  obtain ⟨g, cap, cc, rfl, hNg, hg, hnc, hcm, hsz, hcc⟩ : ∃ g cap cc, v' = .slice (some ⟨g, 0, none⟩) (n + 1) cap ∧ w.heap.size ≤ g ∧ w1.heap[g]? = some (.cells cc 56 (0, 0)) ∧ n + 1 ≤ cap ∧ cap ≤ maxLen ∧ cc.size = cap ∧ ∀ k, k < n + 1 → cc[k]? = some (pt (b k)) := by
    rcases hr1 with ⟨_, h0⟩ | ⟨g, cap, cc, h⟩
    · omega
    · exact ⟨g, cap, cc, h⟩
  have hQ1 := HQ.out.on hb1
  have HS := Lib.hid (sort_ (cap := cap) hg hcc (fun k hk => (hQ1.ln.slot k hk).2) (by omega) hQ1.ln.lim)
  have HB1 := Lib.hid hb1
  have HQ1 := Lib.hid hQ1
  have hglt := blk_lt hg
  have hlim := hQ1.ln.lim
  clear hr1 hb1 hg hcc hQ1 HC hcm hsz
  go_wp2_with fail
  refine HS.out.mono ?_
  rintro e w2 ⟨rfl, hin⟩
  have hl := order_list HQ1.out hin
  obtain ⟨_, _, _, _, hfar, ho, ht, hou, hsz2⟩ := hin
  have HB2 : Hid (Below w.heap.size w w2) := HB1.out.trans ⟨ho, ht, hou, hsz2, fun k hk => hfar k (by omega) (by omega)⟩
  have hrl : r.length = n + 1 := HQ1.out.len
  have HO : Hid (∀ k (hk : k < r.length), ∃ j, w2.cell? ⟨g, k, none⟩ = some (pt j) ∧ w2.cell? ⟨j, 0, none⟩ = some (.int .i64 (r[k]).id) ∧ w2.cell? ⟨j, 1, none⟩ = some (.int .i64 (r[k]).rank)) := fun k hk => by
    obtain ⟨j, hj, e, hc⟩ := hl k hk
    have hs := (HQ1.out.ln.slot j hj).2
    have hne : b j ≠ g := fun e' => by have := slot_lt ((HQ.out.ln.slot j hj).2); omega
    have hs2 : SlotAt w2 (b j) (S (b j)) j := (hfar _ (slot_lt hs) hne).trans hs
    rw [e] at hs2
    exact ⟨b j, hc, hs2.cells.1, hs2.cells.2.1⟩
  obtain ⟨i0, hi, hz0, hz1, hz2⟩ := info_parts info37
  clear hl hfar ho ht hou hsz2 HS HB1 HQ1 HQ c0
  go_wp2_with fail
  go_loopw [4, 18] (fun ov iv wr => ∃ k : Nat, k ≤ n + 1 ∧ iv = .int .i64 k ∧ Hid (wr.ownsRow w2.heap.size 37 2 ov k (itC (r.take k)) ∧ Below w2.heap.size w2 wr)) (fun _ iv _ => n + 1 - (intOf iv).toNat)
  case atStart => exact ⟨0, Nat.zero_le _, rfl, World.ownsRow_nil _ _ _ _, Below.refl _ _⟩
  case round =>
    obtain ⟨k, hk, rfl, H⟩ := hrel
    by_cases hlt : k < n + 1
    · have hlt2 : (k : Int) < (n : Int) + 1 := by omega
      have hkr : k < r.length := by omega
      obtain ⟨j, c1, c2, c3⟩ := HO.out k hkr
      have hb := H.out.2
      replace c1 := (hb.cell (block_lt_of_cell c1)).trans c1
      replace c2 := (hb.cell (block_lt_of_cell c2)).trans c2
      replace c3 := (hb.cell (block_lt_of_cell c3)).trans c3
      have hsz := hb.size
      have HT : Hid (r.take (k + 1) = r.take k ++ [r[k]]) := List.take_succ_eq_append_getElem hkr
      unfold pt at c1
      generalize r[k] = x at *
      obtain ⟨xi, xr, hxi, hxr⟩ : ∃ xi xr, x.id = xi ∧ x.rank = xr := ⟨_, _, rfl, rfl⟩
      rw [hxi] at c2
      rw [hxr] at c3
      clear hb
      go_wp2_with (first
        | (at_builtin; refine wpList_append_own _ rfl _ _ 44 rfl w2.heap.size 37 i0 (.agg #[.int .i64 0, .int .i64 0]) 2 16 Tryd.underlying44 hi hz0 hz1 hz2 rfl (by decide) _ _ _ rfl (H.out.1.alloc _) ⟨wr.heap.size, 0, none⟩ 1 1 [.int .i64 xi, .int .i64 xr] rfl rfl (two_cells _ _ _ _) (two_one _ _) (by unfold maxLen; omega) (by omega) (by simp; omega) ?_)
        | fail)
      intro v' w3 hown hgrow _
      have HE : Hid (w3.ownsRow w2.heap.size 37 2 v' (k + 1) (itC (r.take (k + 1))) ∧ Below w2.heap.size w2 w3) := by
        refine ⟨?_, (H.out.2.alloc hsz _).grown hgrow (by simp; omega) (fun g hg => (H.out.1.lt g hg).1)⟩
        rw [HT.out, ← itC_append]
        have e : itC [x] = [.int .i64 xi, .int .i64 xr] := by rw [← hxi, ← hxr]; rfl
        rw [e]; exact hown
      clear hown hgrow
      go_wp2_with fail
      go_roundw
      case rel => exact ⟨k + 1, by omega, by go_num, HE.out⟩
      case measure => simp [intOf]; omega
    · obtain rfl : k = n + 1 := by omega
      have HE : Hid ((∃ a c, u4 = .slice a r.length c ∧ ItemsIn wr a r) ∧ Below w.heap.size w wr) := by
        have h1 := H.out.1
        rw [← hrl, List.take_length] at h1
        exact ⟨items_of h1, below_step HB2.out H.out.2⟩
      obtain ⟨⟨a', c', rfl, hI⟩, hB⟩ := HE.out
      have HI := Lib.hid hI
      have HB := Lib.hid hB
      clear hI hB HE H
      go_wp2_with fail
      go_ret
      exact ⟨⟨a', c', rfl, HI.out⟩, HB.out⟩
set_option maxHeartbeats 1000000 in
theorem all_none {w : World} {N qb : Nat} {t : Nat} {mv v : Value} {b : Nat → Nat} {S : Nat → Sl} (h : Qu w N qb [] t mv v 0 b S) :
    Calls Tryd.prog 17 #[.pointer (some ⟨qb, 0, none⟩)] w fun e w' => (∃ a c, e = .returned (.slice a 0 c)) ∧ Below w.heap.size w w' := by
  have c0 := h.ln.head.1
  have HC := Lib.hid (clone_ h.ln.row h.ln.lim)
  obtain ⟨a, c, rfl, _, _⟩ := h.ln.len
  have hp := fun (p : Option Addr) (cap : Nat) (lim : Int) (fv : Value) (W : World) => AnyF.pdqsortCmpFunc_none (P := Tryd.prog) (ρ := Tryd.pdqSlot_ren) { Tryd.pdqSlot with } p cap lim fv W
  have HP : Hid (∀ (p : Option Addr) (cap : Nat) (lim : Int) (fv : Value) (W : World), Calls Tryd.prog 38 #[.slice p 0 cap, .int .i64 0, .int .i64 0, .int .i64 lim, fv] W fun e w' => e = .returned (.tuple #[]) ∧ w' = W) := hp
  have HL : Hid (∀ W, Calls Tryd.prog 39 #[.int .u64 0] W fun e w' => e = .returned (.int .i64 ((Lib.bitLen 0 : Nat) : Int)) ∧ w' = W) := fun W => by
    have h := Any.bits_Len (SlLaysF0.n15.bits Tryd.bitsLen) 0 W (by omega) (by omega)
    exact h
  clear h hp
  go_enter Tryd.func17, Tryd.ntmps17
  go_wp2_with fail
  refine HC.out.mono ?_
  rintro e w1 ⟨v', rfl, hr1, hb1⟩
  obtain ⟨a1, c1, rfl⟩ : ∃ a1 c1, v' = .slice a1 0 c1 := by
    rcases hr1 with ⟨rfl, _⟩ | ⟨g, cap, cc, rfl, _⟩
    · exact ⟨_, _, rfl⟩
    · exact ⟨_, _, rfl⟩
  have HB1 := Lib.hid hb1
  have HSF : Hid (∀ W, Calls Tryd.prog 29 #[.slice a1 0 c1, .func (.func 30) #[] #[]] W fun e w' => e = .returned (.tuple #[]) ∧ w' = W) := by
    intro W
    go_enter Tryd.func29, Tryd.ntmps29
    go_wp2_with (first | (go_at_call 39; refine (HL.out _).mono ?_; rintro e w0 ⟨rfl, rfl⟩) | (go_at_call 38; refine (HP.out _ _ _ _ _).mono ?_; rintro e w' ⟨rfl, rfl⟩))
    go_end0
    exact ⟨rfl, rfl⟩
  clear hr1 hb1 HC HP HL
  go_wp2_with fail
  refine (HSF.out _).mono ?_
  rintro e w2 ⟨rfl, rfl⟩
  go_wp2_with fail
  refine wp_loop_rounds 1 ?_
  rw [rounds_succ]
  go_wp2_with fail
  go_ret
  exact ⟨⟨none, 0, rfl⟩, HB1.out⟩
set_option maxHeartbeats 1000000 in
theorem all_nilq (w : World) : Calls Tryd.prog 17 #[.pointer none] w fun e w' => e = .returned (.slice none 0 0) ∧ w' = w := by
  go_enter Tryd.func17, Tryd.ntmps17
  go_wp2_with fail
  go_ret
  exact ⟨rfl, rfl⟩
end Go.Proofs.YtnkdhipeklphaaaDoor
