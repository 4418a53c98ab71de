/- The walk of maps.Keys and of its iterator, at the places of a map. -/
import Derived.Test.YtjnhcanohefjiaaGreatDoorDSync
import Derived.Shelf.SlIter.Collect
import Derived.RangeFuncLeaves
namespace Go.Proofs.YtjnhcanohefjiaaGreatDoor
open Go.RowKit Go.Sort Go.Maps Go.Shelf

/-- The keys that came so far. -/
structure CollP (D0 : DataW Unit) (left : Lit → Bool) (ss : List Pl) : Prop where
  nd : ss.Nodup
  got : ∀ x ∈ ss, inP x ∧ has D0 (keyL x) = true ∧ left (keyL x) = false
  all : ∀ x, inP x → has D0 (keyL x) = true → left (keyL x) = false → x ∈ ss
theorem CollP.start (D0 : DataW Unit) : CollP D0 (has D0) [] := ⟨List.nodup_nil, fun x hx => by simp at hx, fun x _ h1 h2 => by rw [h1] at h2; cases h2⟩
theorem CollP.step {D0 : DataW Unit} {left : Lit → Bool} {ss : List Pl} {x : Pl} (h : CollP D0 left ss) (hx : inP x) (hh : has D0 (keyL x) = true) (hl : left (keyL x) = true) : CollP D0 (fun z => left z && !z.sameKey (keyL x)) (ss ++ [x]) := by
  have hno : x ∉ ss := fun hm => by have := (h.got x hm).2.2; rw [hl] at this; cases this
  refine ⟨?_, ?_, ?_⟩
  · rw [List.nodup_append]
    exact ⟨h.nd, by simp, fun a ha b hb => by simp at hb; subst hb; exact fun e => hno (e ▸ ha)⟩
  · intro y hy
    rcases List.mem_append.1 hy with hy | hy
    · obtain ⟨h1, h2, h3⟩ := h.got y hy
      exact ⟨h1, h2, by simp [h3]⟩
    · simp at hy
      subst hy
      exact ⟨hx, hh, by simp [sameKey_iff hx hx]⟩
  · intro y h1 h2 h3
    by_cases e : y = x
    · simp [e]
    · simp [sameKey_iff h1 hx, e] at h3
      exact List.mem_append_left _ (h.all y h1 h2 h3)
theorem nodup_keys {l : List (Pl × Ct)} (h : SrtP l) : (l.map (·.1)).Nodup := by
  rw [List.nodup_iff_pairwise_ne, List.pairwise_map]
  exact List.Pairwise.imp (fun h => ltP_ne h) h
theorem CollP.perm {D0 : DataW Unit} {left : Lit → Bool} {ss : List Pl} {l : List (Pl × Ct)} (h : CollP D0 left ss) (hl : ∀ kl, left kl = false) (hp : PendIs D0 l) (hs : SrtP l) (hi : ∀ x ∈ l, inP x.1) : ss.Perm (l.map (·.1)) := by
  refine (List.perm_ext_iff_of_nodup h.nd (nodup_keys hs)).2 fun x => ⟨fun hx => ?_, fun hx => ?_⟩
  · obtain ⟨h1, h2, _⟩ := h.got x hx
    rw [(hp x h1).1] at h2
    obtain ⟨c, hc⟩ := Option.isSome_iff_exists.1 h2
    exact List.mem_map.2 ⟨_, getP_mem hc, rfl⟩
  · obtain ⟨y, hy, rfl⟩ := List.mem_map.1 hx
    refine h.all y.1 (hi y hy) ?_ (hl _)
    rw [(hp y.1 (hi y hy)).1, getP_of_mem hs (show (y.1, y.2) ∈ l from hy)]
    rfl
theorem wide_fn (f : Nat) : Fence.wide.fn f := trivial
theorem wide_round : Fence.wide.round = none := rfl
set_option maxRecDepth 100000 in
set_option maxHeartbeats 1000000 in
theorem keys1_in (n : Nat) (hn : 1 ≤ n) (l Bm b nn : Nat) (D0 : DataW Unit) (pl : List (Pl × Ct)) (hp : PendIs D0 pl) (hs : SrtP pl) (hi : ∀ x ∈ pl, inP x.1) (J : List Pl → World → Prop)
    (hY : ∀ pre x W, J pre W → pre.length < Maps.size D0 → YieldAt Fence.wide (n - 1) Tryz.prog l #[plV x] W fun e W' => e = .returned (.bool true) ∧ J (pre ++ [x]) W' ∧ KeepsWalks W W')
    (W : World) (hJ : AbidesFrom W.heap.size J) (hm : W.cell? ⟨Bm, 0, none⟩ = some (.map (some b))) (hown : W.ownsMap Tryz.prog 132 ctE b nn D0) (h0 : J [] W) :
    CallsIn Fence.wide n Tryz.prog 86 #[.func (.yield l) #[] #[], .pointer (some ⟨Bm, 0, none⟩)] W fun e W' => (∃ v, e = .returned v) ∧ ∃ ss : List Pl, ss.Perm (pl.map (·.1)) ∧ J ss W' := by
  have HP := Lib.hid (And.intro hp (And.intro hs hi))
  clear hp hs hi
  refine callsIn_of_wp Tryz.func86 rfl (wide_fn _) ?_ wide_round
  simp only [Tryz.ntmps86, List.size_toArray, List.length_cons, List.length_nil, Nat.reduceAdd, Nat.reduceSub, Array.replicate_succ, Array.replicate_zero, List.push_toArray, List.append_toArray, List.nil_append, List.cons_append]
  gi_wp2_with (first
    | (gi_at_range; refine wpListIn_range_own _ rfl _ 69 rfl 132 137 keyed Tryz.underlying69 _ b nn _ rfl hown ?_; intro w0 hrg0 hg0 hs0)
    | gi_in)
  go_frame
  gi_loopw [3] (fun _ wr => ∃ (left : Lit → Bool) (cnt : Nat) (ss : List Pl), wr.ranges Tryz.prog 132 ctE b W.heap.size nn D0 left cnt ∧ ss.length + cnt ≤ Maps.size D0 ∧ CollP D0 left ss ∧ J ss wr)
    (fun _ wr => wr.rangeLeft b W.heap.size)
  case atStart =>
    exact ⟨_, _, [], hrg0, by simp, CollP.start D0, hJ [] W w0 none h0 hg0 (fun r e => by cases e)⟩
  case round =>
    obtain ⟨left, cnt, ss, hrg, hcs, hC, hJs⟩ := hrel
    gi_wp2_with (first
      | (gi_at_next; refine wpListIn_next_ranges _ rfl _ rfl 132 keyed ctE plV ctV (fun key kl hk => by obtain ⟨k, hk, _⟩ := key_inv hk; exact ⟨k, hk⟩) (fun v y hv => ctE_form hv) b W.heap.size nn _ _ _ rfl hrg ?_ ?_)
      | gi_in)
    · intro hc0 hl0
      gi_wp2
      go_end0
      exact ⟨⟨_, rfl⟩, ss, hC.perm hl0 HP.out.1 HP.out.2.1 HP.out.2.2, hJs⟩
    · intro g' j' cc kl yd yp w2 cnt2 hkey hlk hv hat hrg2 hlt hg2 hs2 hen
      obtain ⟨x, hx⟩ : ∃ x : Pl, x = (g', j') := ⟨_, rfl⟩
      rw [← hx] at hkey
      obtain ⟨x', hx', hin, rfl⟩ := key_inv hkey
      obtain rfl := plV_inj hx'
      subst hx
      have hJ2 : J ss w2 := hJ ss wr w2 (some W.heap.size) hJs hg2 (fun r e => by cases e; exact ⟨Nat.le_refl _, hrg.iter_walk⟩)
      have hJ3 : J ss (plW w2 (g', j')) := hJ ss w2 _ none hJ2 (World.grownBy_alloc w2 _ none) (fun r e => by cases e)
      obtain ⟨fn, tmps, assign, body, hy, hR⟩ := hY ss (g', j') _ hJ3 (by omega)
      have hrg3 := hrg2.alloc (.cells #[.int .i64 g', .int .i64 j'] 132)
      have HC := Lib.hid (hC.step hin (has_true_of_atKey hat) hlk)
      unfold plW at hy hR
      unfold plV at hy
      dsimp only at hy hR
      unfold plV at hen
      clear hs2 hJ2 hJ3 hkey hx' hat hlk hC
      gi_wp2
      refine hR.mono ?_
      rintro e W3 ⟨rfl, hJ4, hk3⟩
      gi_wp2
      have hrg4 := hrg3.of_walks hk3
      go_roundw
      case rel => exact ⟨_, cnt2, ss ++ [(g', j')], hrg4, by simp; omega, HC.out, hJ4⟩
      case measure => rw [hrg4.left_eq, hrg.left_eq]; exact hlt
set_option maxHeartbeats 1000000 in
theorem keys_ (mb : Option Nat) (w : World) :
    Calls Tryz.prog 67 #[.map mb] w fun e w' => e = .returned (.func (.func 86) #[] #[.pointer (some ⟨w.heap.size, 0, none⟩)]) ∧ w' = w.alloc (.cells #[.map mb] 69) := by
  go_enter Tryz.func67, Tryz.ntmps67
  go_wp2_with fail
  go_ret
  exact ⟨rfl, rfl⟩
/-- The value that maps.Keys hands back gives the keys, each once. -/
theorem keys_gives (n : Nat) (hn : 1 ≤ n) {Bm b nn : Nat} {D0 : DataW Unit} {pl : List (Pl × Ct)} (hp : PendIs D0 pl) (hs : SrtP pl) (hi : ∀ x ∈ pl, inP x.1) (w : World) (hm : w.cell? ⟨Bm, 0, none⟩ = some (.map (some b))) (hown : w.ownsMap Tryz.prog 132 ctE b nn D0) :
    SeqGives Fence.wide n Tryz.prog 86 #[.pointer (some ⟨Bm, 0, none⟩)] plV (fun ss => ss.Perm (pl.map (·.1))) (Maps.size D0) w := fun l J W hW hJ hY h0 =>
  keys1_in n hn l Bm b nn D0 pl hp hs hi J hY W hJ ((hW.cell (block_lt_of_cell hm)).trans hm) (owns_keep hown (hW.block b hown.lt)) h0
end Go.Proofs.YtjnhcanohefjiaaGreatDoor
