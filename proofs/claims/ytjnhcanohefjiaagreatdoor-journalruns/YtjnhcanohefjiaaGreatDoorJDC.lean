/- The walk of a place's compare; The walk of maps.Keys and of its iterator, at the places of a map; The walks of slices.AppendSeq and slices.Collect, at places. -/
import Derived.Test.YtjnhcanohefjiaaGreatDoorJDA
import Derived.Sort.Grow
import Derived.Test.YtjnhcanohefjiaaGreatDoorDSync
import Derived.Shelf.SlIter.Collect
import Derived.RangeFuncLeaves
import Derived.RangeFuncBox
namespace Go.Proofs.YtjnhcanohefjiaaGreatDoor
open Go.RowKit Go.Sort Go.Maps

def cmpI (x y : Int) : Int := if x < y then -1 else if x = y then 0 else 1
theorem cmpI_cases (x y : Int) : (cmpI x y = -1 ∧ x < y) ∨ (cmpI x y = 0 ∧ x = y) ∨ (cmpI x y = 1 ∧ y < x) := by
  unfold cmpI
  rcases Int.lt_trichotomy x y with h | h | h
  · exact .inl ⟨by simp [h], h⟩
  · exact .inr (.inl ⟨by subst h; simp, h⟩)
  · exact .inr (.inr ⟨by rw [if_neg (by omega), if_neg (by omega)], h⟩)
theorem nanInt_ (x : Int) (w : World) : Calls Tryz.prog 99 #[.int .i64 x] w fun e w' => e = .returned (.bool false) ∧ w' = w := by
  go_enter Tryz.func99, Tryz.ntmps99
  go_wp2_with fail
  go_ret
  exact ⟨rfl, rfl⟩
theorem cmpInt_ (x y : Int) (w : World) : Calls Tryz.prog 88 #[.int .i64 x, .int .i64 y] w fun e w' => e = .returned (.int .i64 (cmpI x y)) ∧ w' = w := by
  rcases cmpI_cases x y with ⟨h1, h2⟩ | ⟨h1, h2⟩ | ⟨h1, h2⟩
  · rw [h1]
    go_enter Tryz.func88, Tryz.ntmps88
    go_wp2_with (go_at_call 99; refine (nanInt_ _ _).mono ?_; rintro e w' ⟨rfl, rfl⟩)
    go_ret
    exact ⟨rfl, rfl⟩
  · rw [h1]
    subst h2
    go_enter Tryz.func88, Tryz.ntmps88
    go_wp2_with (go_at_call 99; refine (nanInt_ _ _).mono ?_; rintro e w' ⟨rfl, rfl⟩)
    go_ret
    exact ⟨rfl, rfl⟩
  · rw [h1]
    have h3 : ¬ x < y := by omega
    go_enter Tryz.func88, Tryz.ntmps88
    go_wp2_with (go_at_call 99; refine (nanInt_ _ _).mono ?_; rintro e w' ⟨rfl, rfl⟩)
    go_ret
    exact ⟨rfl, rfl⟩
/-- Places in order: by regions, and in them ascending. -/
def cmpP (a b : Pl) : Int := if cmpI a.1 b.1 = 0 then cmpI a.2 b.2 else cmpI a.1 b.1
theorem cmpP_lt (a b : Pl) : cmpP a b < 0 ↔ ltP a b := by
  unfold cmpP ltP
  rcases cmpI_cases a.1 b.1 with ⟨h1, h2⟩ | ⟨h1, h2⟩ | ⟨h1, h2⟩
  · rw [h1]; simp; omega
  · rw [h1]
    rcases cmpI_cases a.2 b.2 with ⟨h3, h4⟩ | ⟨h3, h4⟩ | ⟨h3, h4⟩ <;> rw [h3] <;> simp <;> omega
  · rw [h1]; simp; omega
set_option maxHeartbeats 1000000 in
theorem or_ (B : Nat) (x y r : Int) (w : World) (h0 : w.cell? ⟨B, 0, none⟩ = some (.int .i64 x)) (h1 : w.cell? ⟨B, 1, none⟩ = some (.int .i64 y)) (HR : Hid (r = if x = 0 then y else x)) :
    Calls Tryz.prog 87 #[.slice (some ⟨B, 0, none⟩) 2 2] w fun e w' => e = .returned (.int .i64 r) ∧ w' = w := by
  go_enter Tryz.func87, Tryz.ntmps87
  go_wp2
  go_loopw [8] (fun iv wy => ∃ i : Nat, i ≤ 2 ∧ iv = .int .i64 i ∧ wy = w ∧ Hid ((0 < i → x = 0) ∧ (1 < i → y = 0))) (fun iv _ => 2 - (intOf iv).toNat)
  case atStart => exact ⟨0, by omega, rfl, rfl, ⟨fun h => by omega, fun h => by omega⟩⟩
  case round =>
    obtain ⟨i, hi, rfl, rfl, H⟩ := hrel
    rcases (by omega : i = 0 ∨ i = 1 ∨ i = 2) with rfl | rfl | rfl
    · by_cases hx : x = 0
      · have HX := Lib.hid hx
        have hx' : (x != 0) = false := by simp [hx]
        clear hx
        have HREL : Hid (Hid ((0 < 1 → x = 0) ∧ (1 < 1 → y = 0))) := ⟨fun _ => HX.out, fun h => by omega⟩
        go_wp2_with fail
        go_roundw
        case rel => exact ⟨1, by omega, by go_num, trivial, HREL.out⟩
        case measure => simp [intOf]
      · have hx' : (x != 0) = true := by simp [hx]
        have HN : Hid (r = x) := by
          show r = x
          rw [HR.out, if_neg hx]
        clear hx
        go_wp2_with fail
        go_ret
        exact ⟨ret_int HN.out.symm, rfl⟩
    · by_cases hx : y = 0
      · have HX := Lib.hid hx
        have hx' : (y != 0) = false := by simp [hx]
        clear hx
        have HREL : Hid (Hid ((0 < 2 → x = 0) ∧ (1 < 2 → y = 0))) := ⟨fun _ => H.out.1 (by omega), fun _ => HX.out⟩
        go_wp2_with fail
        go_roundw
        case rel => exact ⟨2, by omega, by go_num, trivial, HREL.out⟩
        case measure => simp [intOf]
      · have hx' : (y != 0) = true := by simp [hx]
        have HN : Hid (r = y) := by
          show r = y
          rw [HR.out, if_pos (H.out.1 (by omega))]
        clear hx
        go_wp2_with fail
        go_ret
        exact ⟨ret_int HN.out.symm, rfl⟩
    · have HN : Hid (r = 0) := by
        show r = 0
        rw [HR.out, if_pos (H.out.1 (by omega)), H.out.2 (by omega)]
      go_wp2_with fail
      go_ret
      exact ⟨ret_int HN.out.symm, rfl⟩
theorem heap_three (w : World) (o o' o'' : Obj) : (((w.alloc o).alloc o').alloc o'').drew.heap[w.heap.size + 1 + 1]? = some o'' := by
  have := World.alloc_heap_new' ((w.alloc o).alloc o') o''
  simp only [World.size_alloc] at this
  exact this
theorem cell_three (w : World) (o o' : Obj) (x y : Value) (t : TypeId) : (((w.alloc o).alloc o').alloc (.cells #[x, y] t)).drew.cell? ⟨w.heap.size + 1 + 1, 0, none⟩ = some x ∧ (((w.alloc o).alloc o').alloc (.cells #[x, y] t)).drew.cell? ⟨w.heap.size + 1 + 1, 1, none⟩ = some y :=
  ⟨cell_of (heap_three w o o' (.cells #[x, y] t)) rfl, cell_of (heap_three w o o' (.cells #[x, y] t)) rfl⟩
theorem gr_three (w : World) (o o' o'' : Obj) : ∃ q os', (((w.alloc o).alloc o').alloc o'').drew = grow (w.drewN q) os' := ⟨1, #[o, o', o''], by
  show ({ w with heap := ((w.heap.push o).push o').push o'', drawn := w.drawn + 1 } : World) = { w with heap := w.heap ++ #[o, o', o''], drawn := w.drawn + 1 }
  congr 1⟩
set_option maxHeartbeats 1000000 in
set_option maxRecDepth 100000 in
theorem compare_ (a b : Pl) (w : World) :
    Calls Tryz.prog 68 #[plV a, plV b] w fun e w' => e = .returned (.int .i64 (cmpP a b)) ∧ ∃ q os', w' = grow (w.drewN q) os' := by
  obtain ⟨x1, x2⟩ := a
  obtain ⟨y1, y2⟩ := b
  unfold plV
  have HR : Hid (cmpP (x1, x2) (y1, y2) = if cmpI x1 y1 = 0 then cmpI x2 y2 else cmpI x1 y1) := rfl
  generalize cmpP (x1, x2) (y1, y2) = r at *
  have G := Lib.hid (gr_three w)
  go_enter Tryz.func68, Tryz.ntmps68
  go_wp2_with fail
  go_region_held (fun w' => w'.cell? ⟨w.heap.size, 0, none⟩ = some (.int .i64 x1) ∧ w'.cell? ⟨w.heap.size, 1, none⟩ = some (.int .i64 x2) ∧ w'.cell? ⟨w.heap.size + 1, 0, none⟩ = some (.int .i64 y1) ∧ w'.cell? ⟨w.heap.size + 1, 1, none⟩ = some (.int .i64 y2)) (go_keep)
    (first | (go_at_call 88; refine (cmpInt_ _ _ _).mono ?_; rintro e w' ⟨rfl, rfl⟩) | (go_at_call 87; refine (or_ (w.heap.size + 1 + 1) (cmpI x1 y1) (cmpI x2 y2) r _ (cell_three w _ _ _ _ _).1 (cell_three w _ _ _ _ _).2 HR).mono ?_; rintro e w' ⟨rfl, rfl⟩))
  go_wp2_with fail
  go_ret
  exact ⟨rfl, G.out _ _ _⟩
end Go.Proofs.YtjnhcanohefjiaaGreatDoor

namespace Go.Proofs.YtjnhcanohefjiaaGreatDoor
open Go.RowKit Go.Sort Go.Maps Go.Shelf

/-- The keys that came so far. -/
structure CollP (D0 : DataW Unit) (left : Lit → Bool) (ss : List Pl) : Prop where
  nd : ss.Nodup
  got : ∀ x ∈ ss, inP x ∧ has D0 (keyL x) = true ∧ left (keyL x) = false
  all : ∀ x, inP x → has D0 (keyL x) = true → left (keyL x) = false → x ∈ ss
theorem CollP.start (D0 : DataW Unit) : CollP D0 (has D0) [] := ⟨List.nodup_nil, fun x hx => by simp at hx, fun x _ h1 h2 => by rw [h1] at h2; cases h2⟩
theorem CollP.step {D0 : DataW Unit} {left : Lit → Bool} {ss : List Pl} {x : Pl} (h : CollP D0 left ss) (hx : inP x) (hh : has D0 (keyL x) = true) (hl : left (keyL x) = true) : CollP D0 (fun z => left z && !z.sameKey (keyL x)) (ss ++ [x]) := by
  have hno : x ∉ ss := fun hm => by have := (h.got x hm).2.2; rw [hl] at this; cases this
  refine ⟨?_, ?_, ?_⟩
  · rw [List.nodup_append]
    exact ⟨h.nd, by simp, fun a ha b hb => by simp at hb; subst hb; exact fun e => hno (e ▸ ha)⟩
  · intro y hy
    rcases List.mem_append.1 hy with hy | hy
    · obtain ⟨h1, h2, h3⟩ := h.got y hy
      exact ⟨h1, h2, by simp [h3]⟩
    · simp at hy
      subst hy
      exact ⟨hx, hh, by simp [sameKey_iff hx hx]⟩
  · intro y h1 h2 h3
    by_cases e : y = x
    · simp [e]
    · simp [sameKey_iff h1 hx, e] at h3
      exact List.mem_append_left _ (h.all y h1 h2 h3)
theorem nodup_keys {l : List (Pl × Ct)} (h : SrtP l) : (l.map (·.1)).Nodup := by
  rw [List.nodup_iff_pairwise_ne, List.pairwise_map]
  exact List.Pairwise.imp (fun h => ltP_ne h) h
theorem CollP.perm {D0 : DataW Unit} {left : Lit → Bool} {ss : List Pl} {l : List (Pl × Ct)} (h : CollP D0 left ss) (hl : ∀ kl, left kl = false) (hp : PendIs D0 l) (hs : SrtP l) (hi : ∀ x ∈ l, inP x.1) : ss.Perm (l.map (·.1)) := by
  refine (List.perm_ext_iff_of_nodup h.nd (nodup_keys hs)).2 fun x => ⟨fun hx => ?_, fun hx => ?_⟩
  · obtain ⟨h1, h2, _⟩ := h.got x hx
    rw [(hp x h1).1] at h2
    obtain ⟨c, hc⟩ := Option.isSome_iff_exists.1 h2
    exact List.mem_map.2 ⟨_, getP_mem hc, rfl⟩
  · obtain ⟨y, hy, rfl⟩ := List.mem_map.1 hx
    refine h.all y.1 (hi y hy) ?_ (hl _)
    rw [(hp y.1 (hi y hy)).1, getP_of_mem hs (show (y.1, y.2) ∈ l from hy)]
    rfl
theorem wide_fn (f : Nat) : Fence.wide.fn f := trivial
theorem wide_round : Fence.wide.round = none := rfl
set_option maxRecDepth 100000 in
set_option maxHeartbeats 1000000 in
theorem keys1_in (n : Nat) (hn : 1 ≤ n) (l Bm b nn : Nat) (D0 : DataW Unit) (pl : List (Pl × Ct)) (hp : PendIs D0 pl) (hs : SrtP pl) (hi : ∀ x ∈ pl, inP x.1) (J : List Pl → World → Prop)
    (hY : ∀ pre x W, J pre W → pre.length < Maps.size D0 → YieldAt Fence.wide (n - 1) Tryz.prog l #[plV x] W fun e W' => e = .returned (.bool true) ∧ J (pre ++ [x]) W' ∧ KeepsWalks W W')
    (W : World) (hJ : AbidesFrom W.heap.size J) (hm : W.cell? ⟨Bm, 0, none⟩ = some (.map (some b))) (hown : W.ownsMap Tryz.prog 132 ctE b nn D0) (h0 : J [] W) :
    CallsIn Fence.wide n Tryz.prog 86 #[.func (.yield l) #[] #[], .pointer (some ⟨Bm, 0, none⟩)] W fun e W' => (∃ v, e = .returned v) ∧ ∃ ss : List Pl, ss.Perm (pl.map (·.1)) ∧ J ss W' := by
  have HP := Lib.hid (And.intro hp (And.intro hs hi))
  clear hp hs hi
  refine callsIn_of_wp Tryz.func86 rfl (wide_fn _) ?_ wide_round
  simp only [Tryz.ntmps86, List.size_toArray, List.length_cons, List.length_nil, Nat.reduceAdd, Nat.reduceSub, Array.replicate_succ, Array.replicate_zero, List.push_toArray, List.append_toArray, List.nil_append, List.cons_append]
  gi_wp2_with (first
    | (gi_at_range; refine wpListIn_range_own _ rfl _ 69 rfl 132 137 keyed Tryz.underlying69 _ b nn _ rfl hown ?_; intro w0 hrg0 hg0 hs0)
    | gi_in)
  go_frame
  gi_loopw [3] (fun _ wr => ∃ (left : Lit → Bool) (cnt : Nat) (ss : List Pl), wr.ranges Tryz.prog 132 ctE b W.heap.size nn D0 left cnt ∧ ss.length + cnt ≤ Maps.size D0 ∧ CollP D0 left ss ∧ J ss wr)
    (fun _ wr => wr.rangeLeft b W.heap.size)
  case atStart =>
    exact ⟨_, _, [], hrg0, by simp, CollP.start D0, hJ [] W w0 none h0 hg0 (fun r e => by cases e)⟩
  case round =>
    obtain ⟨left, cnt, ss, hrg, hcs, hC, hJs⟩ := hrel
    gi_wp2_with (first
      | (gi_at_next; refine wpListIn_next_ranges _ rfl _ rfl 132 keyed ctE plV ctV (fun key kl hk => by obtain ⟨k, hk, _⟩ := key_inv hk; exact ⟨k, hk⟩) (fun v y hv => ctE_form hv) b W.heap.size nn _ _ _ rfl hrg ?_ ?_)
      | gi_in)
    · intro hc0 hl0
      gi_wp2
      go_end0
      exact ⟨⟨_, rfl⟩, ss, hC.perm hl0 HP.out.1 HP.out.2.1 HP.out.2.2, hJs⟩
    · intro g' j' cc kl yd yp w2 cnt2 hkey hlk hv hat hrg2 hlt hg2 hs2 hen
      obtain ⟨x, hx⟩ : ∃ x : Pl, x = (g', j') := ⟨_, rfl⟩
      rw [← hx] at hkey
      obtain ⟨x', hx', hin, rfl⟩ := key_inv hkey
      obtain rfl := plV_inj hx'
      subst hx
      have hJ2 : J ss w2 := hJ ss wr w2 (some W.heap.size) hJs hg2 (fun r e => by cases e; exact ⟨Nat.le_refl _, hrg.iter_walk⟩)
      have hJ3 : J ss (plW w2 (g', j')) := hJ ss w2 _ none hJ2 (World.grownBy_alloc w2 _ none) (fun r e => by cases e)
      obtain ⟨fn, tmps, assign, body, hy, hR⟩ := hY ss (g', j') _ hJ3 (by omega)
      have hrg3 := hrg2.alloc (.cells #[.int .i64 g', .int .i64 j'] 132)
      have HC := Lib.hid (hC.step hin (has_true_of_atKey hat) hlk)
      unfold plW at hy hR
      unfold plV at hy
      dsimp only at hy hR
      unfold plV at hen
      clear hs2 hJ2 hJ3 hkey hx' hat hlk hC
      gi_wp2
      refine hR.mono ?_
      rintro e W3 ⟨rfl, hJ4, hk3⟩
      gi_wp2
      have hrg4 := hrg3.of_walks hk3
      go_roundw
      case rel => exact ⟨_, cnt2, ss ++ [(g', j')], hrg4, by simp; omega, HC.out, hJ4⟩
      case measure => rw [hrg4.left_eq, hrg.left_eq]; exact hlt
set_option maxHeartbeats 1000000 in
theorem keys_ (mb : Option Nat) (w : World) :
    Calls Tryz.prog 67 #[.map mb] w fun e w' => e = .returned (.func (.func 86) #[] #[.pointer (some ⟨w.heap.size, 0, none⟩)]) ∧ w' = w.alloc (.cells #[.map mb] 69) := by
  go_enter Tryz.func67, Tryz.ntmps67
  go_wp2_with fail
  go_ret
  exact ⟨rfl, rfl⟩
/-- The value that maps.Keys hands back gives the keys, each once. -/
theorem keys_gives (n : Nat) (hn : 1 ≤ n) {Bm b nn : Nat} {D0 : DataW Unit} {pl : List (Pl × Ct)} (hp : PendIs D0 pl) (hs : SrtP pl) (hi : ∀ x ∈ pl, inP x.1) (w : World) (hm : w.cell? ⟨Bm, 0, none⟩ = some (.map (some b))) (hown : w.ownsMap Tryz.prog 132 ctE b nn D0) :
    SeqGives Fence.wide n Tryz.prog 86 #[.pointer (some ⟨Bm, 0, none⟩)] plV (fun ss => ss.Perm (pl.map (·.1))) (Maps.size D0) w := fun l J W hW hJ hY h0 =>
  keys1_in n hn l Bm b nn D0 pl hp hs hi J hY W hJ ((hW.cell (block_lt_of_cell hm)).trans hm) (owns_keep hown (hW.block b hown.lt)) h0
end Go.Proofs.YtjnhcanohefjiaaGreatDoor

namespace Go.Proofs.YtjnhcanohefjiaaGreatDoor
open Go.RowKit Go.Sort Go.Maps Go.Shelf

/-- Places as cells. -/
def flat (ss : List Pl) : List Value := ss.flatMap fun k => [.int .i64 k.1, .int .i64 k.2]
theorem flat_append (a b : List Pl) : flat a ++ flat b = flat (a ++ b) := by simp [flat]
theorem infoP : (Tryz.prog.info? 132).map (fun i => (i.zero, i.size, i.bytes)) = some (some (.agg #[.int .i64 0, .int .i64 0]), 2, 16) := by kernel_rfl
/-- What the loop of AppendSeq does with each. -/
def apA (s : String) : Code := .region 2 #[{ dst := some 5, op := .alloc 132, type := 0, pos := s, after := #[], guard := none }, { dst := none, op := .store 132 (.tmp 5) (.tmp 7), type := 0, pos := s, after := #[{ on := 0, ground := .data }, { on := 0, ground := .phase }], guard := none }] false
def apB (s : String) : Code := .block 1 (.region 3 #[{ dst := some 8, op := .load 129 (.tmp 2), type := 129, pos := s, after := #[], guard := none }, { dst := some 9, op := .load 132 (.tmp 5), type := 132, pos := s, after := #[], guard := none }, { dst := some 10, op := .buildSlice 129 1 #[(0, .tmp 9)], type := 129, pos := s, after := #[{ on := 1, ground := .data }], guard := none }, { dst := some 11, op := .call { callee := .builtin .append, args := #[.tmp 8, .tmp 10], argTypes := #[129, 129] }, type := 129, pos := s, after := #[{ on := 0, ground := .data }, { on := 2, ground := .data }], guard := none }, { dst := none, op := .store 129 (.tmp 2) (.tmp 11), type := 0, pos := s, after := #[{ on := 3, ground := .data }, { on := 3, ground := .chain }, { on := 0, ground := .phase }, { on := 1, ground := .phase }, { on := 2, ground := .phase }, { on := 3, ground := .phase }], guard := none }] false)
def apR (s t : String) (fn : FuncId) (sv : Value) (Bs D : Nat) (st : LoopState) : Loop :=
  { state := st, pending := none, fn, tmps := #[.slice none 0 0, sv, .pointer (some ⟨Bs, 0, none⟩), undef, .slice none 0 0, undef, sv, undef, undef, undef, undef, undef, undef], params := #[7], assign := apA s, body := apB t, defers := D }
/-- Between two rounds. -/
structure ApAt (s t : String) (w0 : World) (fn : FuncId) (sv : Value) (Bs l D : Nat) (ss : List Pl) (W : World) : Prop where
  box : ∃ v, Boxed W Bs 129 v ∧ W.ownsRow w0.heap.size 132 2 v ss.length (flat ss) ∧ (v = .slice none 0 0 ↔ ss = [])
  lop : W.heap[l]? = some (.loop (apR s t fn sv Bs D .ready))
  dfr : W.heap[D]? = some (.deferred (some []))
  below : Below w0.heap.size w0 W
theorem walk_not_cells {o : Obj} (h : o.isWalk = true) : o.isCells = false := Obj.not_cells_of_walk h
theorem ap_abides (s t : String) (w0 : World) (fn : FuncId) (sv : Value) (Bs l D B : Nat) (hB : w0.heap.size ≤ B) : AbidesFrom B (ApAt s t w0 fn sv Bs l D) := fun ss W W' row h hg hrow => by
  have hr1 : ∀ r, row = some r → ∃ o : Obj, W.heap[r]? = some o ∧ o.isWalk = true := fun r e => (hrow r e).2
  have hr2 : ∀ r, row = some r → ∃ o : Obj, W.heap[r]? = some o ∧ o.isCells = false := fun r e => by obtain ⟨o, h1, h2⟩ := (hrow r e).2; exact ⟨o, h1, walk_not_cells h2⟩
  obtain ⟨v, h1, h2, h3⟩ := h.box
  obtain ⟨v', g1, g2, g3⟩ := holdsRow_own w0.heap.size Bs 129 132 2 (fun s : List Pl => s.length) flat (fun s v => v = .slice none 0 0 ↔ s = []) ss W W' row ⟨v, h1, h2, h3⟩ hg hr2
  exact ⟨⟨v', g1, g2, g3⟩, (grownBy_keeps hg hr1 h.lop rfl).trans h.lop, (grownBy_keeps hg hr1 h.dfr rfl).trans h.dfr, h.below.grown hg h.below.size (fun k e => Nat.le_trans hB (hrow k e).1)⟩
theorem cell_two (w : World) (x y : Value) (t : TypeId) : ∀ j u, [x, y][j]? = some u → (w.alloc (.cells #[x, y] t)).cell? ((⟨w.heap.size, 0, none⟩ : Addr).add j) = some u := by
  intro j u hj
  rw [Addr.add_lit, Nat.zero_add]
  refine cell_of (World.alloc_heap_new' w _) ?_
  simpa using hj
theorem place_ne : (129 : TypeId) ≠ 132 := by decide
set_option maxRecDepth 100000 in
set_option maxHeartbeats 2000000 in
theorem apYield (s t : String) (m : Nat) (w0 : World) (fn : FuncId) (sv : Value) (Bs l D : Nat) (hBl : Bs ≠ l) (hDl : D ≠ l) (h0B : w0.heap.size ≤ Bs) (h0l : w0.heap.size ≤ l)
    (N : Nat) (hN : N ≤ 1000000) (ss : List Pl) (x : Pl) (W : World) (h : ApAt s t w0 fn sv Bs l D ss W) (hlen : ss.length < N) :
    YieldAt Fence.wide m Tryz.prog l #[plV x] W fun e W' => e = .returned (.bool true) ∧ ApAt s t w0 fn sv Bs l D (ss ++ [x]) W' ∧ KeepsWalks W W' := by
  obtain ⟨i0, hi, hz0, hz1, hz2⟩ := info_parts infoP
  obtain ⟨v, hv, hrow, hnil⟩ := h.box
  refine ⟨fn, #[.slice none 0 0, sv, .pointer (some ⟨Bs, 0, none⟩), undef, .slice none 0 0, undef, sv, plV x, undef, undef, undef, undef, undef], apA s, apB t, by simpa [apR] using run_yield (P := Tryz.prog) (args := #[plV x]) h.lop rfl, roundIn_of_wpIn (wide_fn _) ?_⟩
  obtain ⟨g, j⟩ := x
  obtain ⟨W1, hW1⟩ : ∃ W1, W1 = W.alloc (.cells #[.int .i64 g, .int .i64 j] 132) := ⟨_, rfl⟩
  have hs1 : W1.heap.size = W.heap.size + 1 := by rw [hW1]; simp
  have hp1 : W1.heap[W.heap.size]? = some (.cells #[.int .i64 g, .int .i64 j] 132 (0, 0)) := by rw [hW1]; exact World.alloc_heap_new' _ _
  have hv1 : Boxed W1 Bs 129 v := by rw [hW1]; exact hv.alloc _
  have hr1 : W1.ownsRow w0.heap.size 132 2 v ss.length (flat ss) := by rw [hW1]; exact hrow.alloc _
  have hB1 : Below W.heap.size W W1 := by rw [hW1]; exact (Below.refl _ _).alloc (Nat.le_refl _) _
  have hl1 : W1.heap[l]? = some (.loop (apR s t fn sv Bs D .ready)) := (hB1.block l (blk_lt h.lop)).trans h.lop
  have hd1 : W1.heap[D]? = some (.deferred (some [])) := (hB1.block D (blk_lt h.dfr)).trans h.dfr
  have hk1 : KeepsWalks W W1 := by rw [hW1]; exact KeepsWalks.alloc _ _
  have hbr := run_beginRound (P := Tryz.prog) hl1 rfl
  obtain ⟨W2, hW2⟩ : ∃ W2, W2 = W1.putObj l (.loop { apR s t fn sv Bs D .ready with state := .busy }) := ⟨_, rfl⟩
  rw [← hW2] at hbr
  have hlW : l ≠ W.heap.size := by have := blk_lt h.lop; omega
  have hp2 : W2.heap[W.heap.size]? = some (.cells #[.int .i64 g, .int .i64 j] 132 (0, 0)) := by rw [hW2]; exact (World.putObj_heap_other (Ne.symm hlW)).trans hp1
  have hv2 : Boxed W2 Bs 129 v := by rw [hW2]; exact (World.putObj_heap_other hBl).trans hv1
  have hr2 : W2.ownsRow w0.heap.size 132 2 v ss.length (flat ss) := by rw [hW2]; exact ownsRow_putObj hr1 _ hl1 rfl
  have hl2 : W2.heap[l]? = some (.loop { apR s t fn sv Bs D .ready with state := .busy }) := by rw [hW2]; exact World.putObj_heap_same (blk_lt hl1)
  have hd2 : W2.heap[D]? = some (.deferred (some [])) := by rw [hW2]; exact (World.putObj_heap_other hDl).trans hd1
  have hk2 : KeepsWalks W W2 := by rw [hW2]; exact hk1.trans (KeepsWalks.putObj _ hl1 rfl)
  have hb2 : Below w0.heap.size w0 W2 := by rw [hW2]; exact (h.below.trans (hB1.mono h.below.size)).grown (grownBy_putObj' _ _ _) (Nat.le_trans h.below.size (by omega)) (fun k e => by cases e; exact h0l)
  have hc2 := hv2.cell
  have hp20 : W2.cell? ⟨W.heap.size, 0, none⟩ = some (.int .i64 g) := cell_of hp2 rfl
  have hp21 : W2.cell? ⟨W.heap.size, 1, none⟩ = some (.int .i64 j) := cell_of hp2 rfl
  have HX := Lib.hid (And.intro hv2 (And.intro hr2 (And.intro hl2 (And.intro hd2 (And.intro hk2 hb2)))))
  have hsz := hb2.size
  clear hp1 hv1 hr1 hB1 hl1 hd1 hk1 hW2 hrow hv h hp2
  unfold apA plV
  gi_wp2_with gi_round_op_a
  rw [← hW1]
  clear hW1
  refine ⟨W2, hbr, ?_⟩
  clear hbr
  unfold apB
  gi_wp2_with (first
    | (gi_at_builtin; refine wpListIn_append_own _ rfl _ _ 129 rfl w0.heap.size 132 i0 (.agg #[.int .i64 0, .int .i64 0]) 2 16 Tryz.underlying129 hi hz0 hz1 hz2 rfl (by decide) _ _ _ rfl (HX.out.2.1.alloc _) ⟨W2.heap.size, 0, none⟩ 1 1 [.int .i64 g, .int .i64 j] rfl rfl (cell_two _ _ _ _) (by simp [Value.oneCell']) (by unfold maxLen; omega) (by omega) (by simp; omega) ?_; intro v' w3 hown' hg3 hnil3
       have HA := Boxed.appended HX.out.1 place_ne HX.out.2.1 hsz h0B hown' hg3
       obtain ⟨g', cap', rfl⟩ := ownsRow_succ hown'
       have hc3 := HA.1.cell
       have hf3 := HA.1.frozen
       go_frame)
    | gi_round_op_a)
  obtain ⟨hv2, hr2, hl2, hd2, hk2, hb2⟩ := HX.out
  obtain ⟨_, hv5, hr5, ho5, hb5⟩ := HA
  generalize w3.setCell ⟨Bs, 0, none⟩ (.slice (some ⟨g', 0, none⟩) (ss.length + 1) cap') = W5 at *
  have hl5 := ho5.same l _ hl2 rfl
  have hd5 := ho5.same D _ hd2 rfl
  have hB5 : Below w0.heap.size w0 W5 := hb2.trans hb5
  refine ⟨_, _, run_endRound none hl5, rfl, ⟨⟨_, (World.putObj_heap_other hBl).trans hv5, ?_, by simp⟩, World.putObj_heap_same (blk_lt hl5), (World.putObj_heap_other hDl).trans hd5, hB5.grown (grownBy_putObj' _ _ _) hB5.size (fun k e => by cases e; exact h0l)⟩, (hk2.trans ho5.walks).trans (KeepsWalks.putObj _ hl5 rfl)⟩
  rw [List.length_append, ← flat_append]
  exact ownsRow_putObj hr5 _ hl5 rfl
/-- What is handed back where places are collected. -/
def CollTo (w : World) (S : List Pl → Prop) (e : Ending) (w' : World) : Prop :=
  ∃ (v : Value) (ss : List Pl), e = .returned v ∧ S ss ∧ w'.ownsRow w.heap.size 132 2 v ss.length (flat ss) ∧ (v = .slice none 0 0 ↔ ss = []) ∧ Below w.heap.size w w'
set_option maxRecDepth 100000 in
set_option maxHeartbeats 2000000 in
/-- The loop of AppendSeq. -/
theorem apLoop (s t : String) (lb : Array Value) (S : List Pl → Prop) (N : Nat) (hN : N ≤ 1000000) (w W0 : World) (hseq : SeqGives Fence.wide 4 Tryz.prog 86 lb plV S N w) (hs0 : W0.heap.size = w.heap.size + 1) (hv0 : Boxed W0 w.heap.size 129 (.slice none 0 0)) (hb0 : Below w.heap.size w W0) (Q : Exit → Act → World → Prop)
    (hdone : ∀ (W : World) (v : Value) (ss : List Pl), S ss → Boxed W w.heap.size 129 v → W.ownsRow w.heap.size 132 2 v ss.length (flat ss) → (v = .slice none 0 0 ↔ ss = []) → Below w.heap.size w W → W.heap[w.heap.size + 1]? = some (.deferred (some [])) →
      Q .normal { tmps := #[.slice none 0 0, .func (.func 86) #[] lb, .pointer (some ⟨w.heap.size, 0, none⟩), undef, .slice none 0 0, undef, .func (.func 86) #[] lb, undef, undef, undef, undef, undef, undef], defers := [{ target := .collected (w.heap.size + 1), args := #[] }] } W) :
    (Code.rangeFunc (.tmp 6) #[7] (apA s) (apB t)).wpIn Fence.wide 5 Tryz.prog Q { tmps := #[.slice none 0 0, .func (.func 86) #[] lb, .pointer (some ⟨w.heap.size, 0, none⟩), undef, .slice none 0 0, undef, .func (.func 86) #[] lb, undef, undef, undef, undef, undef, undef], defers := [] } W0 := by
  refine wpIn_rangeFunc ?_
  intro fn hfn
  rw [wide_round]
  obtain ⟨W1, hW1⟩ : ∃ W1, W1 = (W0.alloc (.deferred (some []))).alloc (.loop (apR s t fn (.func (.func 86) #[] lb) w.heap.size W0.heap.size .ready)) := ⟨_, rfl⟩
  have hB1 : Below W0.heap.size W0 W1 := by rw [hW1]; exact below_two W0 _ _
  have hb1 : Below w.heap.size w W1 := hb0.trans (hB1.mono hb0.size)
  have hM : ApAt s t w fn (.func (.func 86) #[] lb) w.heap.size (W0.heap.size + 1) W0.heap.size [] W1 :=
    ⟨⟨_, (hB1.block _ (by omega)).trans hv0, ⟨rfl, .inl ⟨rfl, rfl⟩⟩, by simp⟩, by rw [hW1]; exact (heap_two W0 _ _).1, by rw [hW1]; exact (heap_two W0 _ _).2, hb1⟩
  refine ⟨W0.heap.size + 1, [{ target := .collected W0.heap.size, args := #[] }], W1, { target := .fn (.func 86) lb, args := #[.func (.yield (W0.heap.size + 1)) #[] #[]] }, W1, 86,
    #[.func (.yield (W0.heap.size + 1)) #[] #[]] ++ lb, W1, ?_, ?_, ?_, ?_, fun _ => by decide, ?_⟩
  · rw [hW1]; exact run_enterLoop_outer _ _ _ _ _
  · simp [resolve, go_sem]
  · intro f' _; exact wide_fn _
  · simp [invoke, go_sem]
  · refine (hseq (W0.heap.size + 1) (ApAt s t w fn (.func (.func 86) #[] lb) w.heap.size (W0.heap.size + 1) W0.heap.size) W1 hb1 (ap_abides s t w _ _ _ _ _ _ hb1.size)
      (fun pre x W hJ hl => apYield s t 3 w fn _ w.heap.size (W0.heap.size + 1) W0.heap.size (by omega) (by omega) (Nat.le_refl _) (by omega) N hN pre x W hJ hl) hM).mono ?_
    rintro e W2 ⟨⟨v0, rfl⟩, ss, hS, h2⟩
    obtain ⟨v, hv, hrow, hnil⟩ := h2.box
    have hend := run_endLoop (P := Tryz.prog) h2.lop (by simp [apR])
    obtain ⟨W3, hW3⟩ : ∃ W3, W3 = W2.putObj (W0.heap.size + 1) (.loop { apR s t fn (.func (.func 86) #[] lb) w.heap.size W0.heap.size .ready with state := .exhausted }) := ⟨_, rfl⟩
    rw [← hW3] at hend
    have hv3 : Boxed W3 w.heap.size 129 v := by rw [hW3]; exact (World.putObj_heap_other (by omega)).trans hv
    have hd3 : W3.heap[W0.heap.size]? = some (.deferred (some [])) := by rw [hW3]; exact (World.putObj_heap_other (by omega)).trans h2.dfr
    have hr3 : W3.ownsRow w.heap.size 132 2 v ss.length (flat ss) := by rw [hW3]; exact ownsRow_putObj hrow _ h2.lop rfl
    have hb3 : Below w.heap.size w W3 := by rw [hW3]; exact h2.below.grown (grownBy_putObj' _ _ _) h2.below.size (fun k e => by cases e; omega)
    clear hW3
    rw [hs0] at hd3
    refine ⟨none, W3, hend, ?_⟩
    rw [hs0]
    exact hdone W3 v ss hS hv3 hr3 hnil hb3 hd3
set_option maxRecDepth 100000 in
set_option maxHeartbeats 2000000 in
theorem appendSeq_ (lb : Array Value) (S : List Pl → Prop) (N : Nat) (hN : N ≤ 1000000) (w : World) (hseq : SeqGives Fence.wide 4 Tryz.prog 86 lb plV S N w) :
    CallsIn Fence.wide 5 Tryz.prog 96 #[.slice none 0 0, .func (.func 86) #[] lb] w (CollTo w S) := by
  refine callsIn_of_wp_marks Tryz.func96 rfl (wide_fn _) ?_ wide_round
  simp only [Tryz.ntmps96, List.size_toArray, List.length_cons, List.length_nil, Nat.reduceAdd, Nat.reduceSub, Array.replicate_succ, Array.replicate_zero, List.push_toArray, List.append_toArray, List.nil_append, List.cons_append]
  gi_wp2
  refine apLoop _ _ lb S N hN w _ hseq (by simp) (Boxed.new _ _ _) ((Below.refl _ w).alloc (Nat.le_refl _) _) _ ?_
  intro W3 v ss hS hv3 hr3 hnil hb3 hd3
  have hc3 := hv3.cell
  gi_wp2
  refine ⟨by simp, .inl ⟨_, _, rfl, run_takeDeferred hd3, ?_⟩⟩
  exact ⟨_, results_tmp rfl _ _ _, v, ss, rfl, hS, ownsRow_putObj hr3 _ hd3 rfl, hnil, hb3.grown (grownBy_putObj' _ _ _) hb3.size (fun k e => by cases e; omega)⟩
set_option maxHeartbeats 1000000 in
theorem collect_ (lb : Array Value) (S : List Pl → Prop) (N : Nat) (hN : N ≤ 1000000) (w : World) (hseq : SeqGives Fence.wide 4 Tryz.prog 86 lb plV S N w) :
    Calls Tryz.prog 84 #[.func (.func 86) #[] lb] w (CollTo w S) := by
  have H := Lib.hid (callsIn_wide.1 (appendSeq_ lb S N hN w hseq))
  clear hseq
  go_enter Tryz.func84, Tryz.ntmps84
  go_wp2_with fail
  refine H.out.mono ?_
  rintro e w1 ⟨v, ss, rfl, hh⟩
  have HH := Lib.hid hh
  clear hh H
  go_wp2_with fail
  go_ret
  exact ⟨v, ss, rfl, HH.out⟩
end Go.Proofs.YtjnhcanohefjiaaGreatDoor
