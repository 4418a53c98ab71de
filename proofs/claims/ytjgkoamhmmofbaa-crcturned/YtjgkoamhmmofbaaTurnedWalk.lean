/- The walk of the law CrcTurned. -/
import Derived.Test.YtjgkoamhmmofbaaLay
import Derived.Deep.RegionHeldLaw
import Derived.Deep.RegionHeld3
namespace Go.Proofs.Ytjgkoamhmmofbaa
open Go.RowKit Go.Sort

theorem zip_at (xs ys : List Nat) (i : Nat) (h1 : i < xs.length) (h2 : i < ys.length) : (List.zipWith (· ^^^ ·) xs ys).take (i + 1) = (List.zipWith (· ^^^ ·) xs ys).take i ++ [xs.getD i 0 ^^^ ys.getD i 0] := by
  have hl : i < (List.zipWith (· ^^^ ·) xs ys).length := by rw [List.length_zipWith]; omega
  rw [List.take_add_one, List.getElem?_eq_getElem hl]
  simp [List.getD_eq_getElem?_getD, List.getElem?_eq_getElem h1, List.getElem?_eq_getElem h2]
theorem one_byte (w : World) (y : Nat) : BytesIn (w.alloc (.cells #[.int .u8 (y : Int)] 5)) (some ⟨w.heap.size, 0, none⟩) [y] := by
  intro i hi
  refine ⟨_, _, rfl, ?_⟩
  match i, hi with
  | 0, _ => simp [go_sem]
theorem own_alloc {w : World} {base : Nat} {v : Value} {xs : List Nat} (h : Own w base v xs) (o : Obj) : Own (w.alloc o) base v xs := World.ownsRow.alloc h o
theorem own_drew {w : World} {base : Nat} {v : Value} {xs : List Nat} (h : Own w base v xs) : Own w.drew base v xs := h
theorem below_new {W w : World} (h : Below W.heap.size W w) (o : Obj) : Below W.heap.size W (w.alloc o) := h.alloc h.size o
theorem BytesIn.new {w : World} {a : Option Addr} {xs : List Nat} (h : BytesIn w a xs) (o : Obj) : BytesIn (w.alloc o) a xs := h.on ((Below.refl _ _).alloc (Nat.le_refl _) o)
theorem BytesIn.head {w : World} {a : Option Addr} {xs : List Nat} (h : BytesIn w a xs) (n : Nat) : BytesIn w a (xs.take n) := by
  intro i hi
  rw [List.length_take] at hi
  obtain ⟨b, o, e, h1⟩ := h i (by omega)
  refine ⟨b, o, e, ?_⟩
  rw [h1]
  rw [List.getD_eq_getElem?_getD, List.getD_eq_getElem?_getD, List.getElem?_take, if_pos (by omega)]
theorem twin_part (a : Option Addr) (xs : List Nat) (c n : Nat) (w : World) (h : BytesIn w a xs) (hc : a = none → c = 0) (hn : n ≤ xs.length) (hl : n ≤ 140737488355328) :
    Calls Try.prog 7 #[.slice a n c] w fun e w' => ∃ a' c', e = .returned (.slice a' n c') ∧ BytesIn w' a' (xs.take n) ∧ Below w.heap.size w w' := by
  have hlen : (xs.take n).length = n := by rw [List.length_take]; omega
  have := twin_ a (xs.take n) c w (h.head n) hc (by omega)
  rw [hlen] at this
  refine this.mono fun e w' hh => ?_
  obtain ⟨a', c', h1, _, h3, _, h5⟩ := hh
  exact ⟨a', c', by rw [← hlen]; exact h1, h3, h5⟩
/-- make([]byte, n). -/
theorem zeros_make (w : World) (n : Nat) (h : n ≤ 281474976710656) : (Instr.makeSlice 23 (.int .i64 (n : Int)) (.int .i64 (n : Int))).run Try.prog w = .ok (.slice (some ⟨w.heap.size, 0, none⟩) n n) (w.alloc (.cells (madeCells #[.int .u8 0] n) 5)) := by
  obtain ⟨i0, hi, hz0, hz1, hz2⟩ := info_parts infoB
  have := run_make (P := Try.prog) w 23 5 i0 _ Try.underlying23 hi hz0 .i64 .i64 n n (by omega) (Int.le_refl _) (by rw [hz2]; omega) (by omega)
  rw [Int.toNat_natCast, hz1, Nat.mul_one] at this
  exact this
theorem zeros_in (w : World) (n : Nat) : BytesIn (w.alloc (.cells (madeCells #[.int .u8 0] n) 5)) (some ⟨w.heap.size, 0, none⟩) (List.replicate n 0) := by
  intro i hi
  rw [List.length_replicate] at hi
  refine ⟨_, _, rfl, ?_⟩
  rw [Nat.zero_add, cell_of_row _ _ i _ 5 (0, 0) (heap_alloc_last w _)]
  simp [madeCells, hi, Nat.mod_one]
set_option maxRecDepth 100000 in
set_option maxHeartbeats 4000000 in
theorem turned_ (a b : Option Addr) (xs ys : List Nat) (c d : Nat) (w : World) (h : BytesIn w a xs) (hx : ∀ x ∈ xs, x < 256) (hc : a = none → c = 0) (hxc : xs.length ≤ c) (hlim : xs.length ≤ 140737488351232)
    (h2 : BytesIn w b ys) (hy : ∀ x ∈ ys, x < 256) (hd : b = none → d = 0) (hyd : ys.length ≤ d) :
    Calls Try.prog 5 #[.slice a xs.length c, .slice b ys.length d] w fun e w' => e = .returned (.bool true) ∧ Below w.heap.size w w' := by
  have HB := Lib.hid h
  have HB2 := Lib.hid h2
  have Hx := Lib.hid hx
  have Hy := Lib.hid hy
  have HC := Lib.hid hc
  have HD := Lib.hid hd
  clear h h2 hx hy hc hd
  have HZ : Hid (∀ i, i < xs.length → i < ys.length → (List.zipWith (· ^^^ ·) xs ys).take (i + 1) = (List.zipWith (· ^^^ ·) xs ys).take i ++ [xs.getD i 0 ^^^ ys.getD i 0]) := Lib.hid (zip_at xs ys)
  have HZL : Hid ((List.zipWith (· ^^^ ·) xs ys).length = min xs.length ys.length) := Lib.hid List.length_zipWith
  generalize hZ : List.zipWith (· ^^^ ·) xs ys = Z at *
  have HZZ := Lib.hid hZ
  clear hZ
  obtain ⟨n, hn⟩ : ∃ n, n = min xs.length ys.length := ⟨_, rfl⟩
  have hmin : (if ys.length < xs.length then (ys.length : Int) else (xs.length : Int)) = (n : Int) := by split <;> omega
  have hn1 : n ≤ xs.length := by omega
  have hn2 : n ≤ ys.length := by omega
  rw [← hn] at HZL
  have HN := Lib.hid hn
  clear hn
  obtain ⟨lx, hlx⟩ : ∃ lx, xs.length = lx := ⟨_, rfl⟩
  obtain ⟨ly, hly⟩ : ∃ ly, ys.length = ly := ⟨_, rfl⟩
  rw [hlx] at hmin hn1 hxc hlim HZ HN ⊢
  rw [hly] at hmin hn2 hyd HZ HN ⊢
  have HLX := Lib.hid hlx
  have HLY := Lib.hid hly
  clear hlx hly
  go_enter Try.func5, Try.ntmps5
  go_wp2_with fail
  go_loopw [6, 7] (fun cv iv wr => ∃ i : Nat, iv = .int .i64 i ∧ i ≤ n ∧ Hid (Own wr w.heap.size cv (Z.take i)) ∧ Hid (Below w.heap.size w wr)) (fun _ iv _ => ((n : Int) - intOf iv).toNat)
  case atStart => exact ⟨0, rfl, Nat.zero_le _, Lib.hid (own_nil _ _), Lib.hid (Below.refl _ _)⟩
  case round =>
    rename Value => cv
    obtain ⟨i, rfl, hi, hO, hb⟩ := hrel
    by_cases hin : i = n
    · have hge : decide (i < n) = false := decide_eq_false (by omega)
      have HI := Lib.hid hin
      clear hin
      have hnc : (n : Int) ≤ (c : Int) := by omega
      have hnd : (n : Int) ≤ (d : Int) := by omega
      have hn0 : (0 : Int) ≤ (n : Int) := by omega
      have hZi : Z.take i = Z := List.take_of_length_le (by rw [HZL.out, HI.out]; exact Nat.le_refl _)
      have hO' := hO.out
      rw [hZi] at hO'
      rename World => W
      have HTa : Hid (∀ W', Below W.heap.size W W' → Calls Try.prog 7 #[.slice a n c] W' fun e w' => ∃ a' c', e = .returned (.slice a' n c') ∧ BytesIn w' a' (xs.take n) ∧ Below W'.heap.size W' w') := Lib.hid fun W' hW => twin_part a xs c n W' (HB.out.on (below_step hb.out hW)) HC.out (by rw [HLX.out]; exact hn1) (by omega)
      have HTb : Hid (∀ W', Below W.heap.size W W' → Calls Try.prog 7 #[.slice b n d] W' fun e w' => ∃ a' c', e = .returned (.slice a' n c') ∧ BytesIn w' a' (ys.take n) ∧ Below W'.heap.size W' w') := Lib.hid fun W' hW => twin_part b ys d n W' (HB2.out.on (below_step hb.out hW)) HD.out (by rw [HLY.out]; exact hn2) (by omega)
      have hlX : (xs.take n).length = n := by rw [List.length_take, HLX.out]; omega
      have hlY : (ys.take n).length = n := by rw [List.length_take, HLY.out]; omega
      have hlZ : (List.replicate n 0).length = n := List.length_replicate
      have hlC : Z.length = n := HZL.out
      have hbX : ∀ x ∈ xs.take n, x < 256 := fun x hx => Hx.out x (List.mem_of_mem_take hx)
      have hbY : ∀ x ∈ ys.take n, x < 256 := fun x hx => Hy.out x (List.mem_of_mem_take hx)
      have hbZ : ∀ x ∈ List.replicate n 0, x < 256 := fun x hx => by rw [List.eq_of_mem_replicate hx]; decide
      have hZt : List.zipWith (· ^^^ ·) (xs.take n) (ys.take n) = Z := by rw [← List.take_zipWith, HZZ.out, ← hlC, List.take_length]
      have hst := sm_turned (xs.take n) (ys.take n) (by rw [hlX, hlY]) hbX hbY
      rw [hZt, hlX] at hst
      have hbC : ∀ x ∈ Z, x < 256 := by
        rw [← hZt]
        intro x hx
        obtain ⟨j, hj, rfl⟩ := List.getElem_of_mem hx
        rw [List.getElem_zipWith]
        exact Nat.xor_lt_two_pow (n := 8) (hbX _ (List.getElem_mem _)) (hbY _ (List.getElem_mem _))
      have HSa : Hid (∀ W' a' c', BytesIn W' a' (xs.take n) → Calls Try.prog 9 #[.slice a' n c'] W' fun e w' => e = .returned (.int .u32 (sm 0 (xs.take n) : Nat)) ∧ Below W'.heap.size W' w') := Lib.hid fun W' a' c' hW => by
        have := sum_ a' (xs.take n) c' W' hW hbX (by omega)
        rw [hlX] at this
        exact this
      have HSb : Hid (∀ W' a' c', BytesIn W' a' (ys.take n) → Calls Try.prog 9 #[.slice a' n c'] W' fun e w' => e = .returned (.int .u32 (sm 0 (ys.take n) : Nat)) ∧ Below W'.heap.size W' w') := Lib.hid fun W' a' c' hW => by
        have := sum_ a' (ys.take n) c' W' hW hbY (by omega)
        rw [hlY] at this
        exact this
      have HSz : Hid (∀ W' a' c', BytesIn W' a' (List.replicate n 0) → Calls Try.prog 9 #[.slice a' n c'] W' fun e w' => e = .returned (.int .u32 (sm 0 (List.replicate n 0) : Nat)) ∧ Below W'.heap.size W' w') := Lib.hid fun W' a' c' hW => by
        have := sum_ a' (List.replicate n 0) c' W' hW hbZ (by omega)
        rw [hlZ] at this
        exact this
      have HSc : Hid (∀ W', Below W.heap.size W W' → Calls Try.prog 9 #[u6] W' fun e w' => e = .returned (.int .u32 (sm 0 Z : Nat)) ∧ Below W'.heap.size W' w') := Lib.hid fun W' hW => by
        obtain ⟨a6, c6, rfl, hin6, _⟩ := (hO'.on hW).bytes
        exact sum_ a6 Z c6 W' hin6 hbC (by omega)
      have HMK : Hid (∀ W' : World, BytesIn (W'.alloc (.cells (madeCells #[.int .u8 0] n) 5)) (some ⟨W'.heap.size, 0, none⟩) (List.replicate n 0)) := Lib.hid fun W' => zeros_in W' n
      have hmk : ∀ W' : World, (Instr.makeSlice 23 (.int .i64 (n : Int)) (.int .i64 (n : Int))).run Try.prog W' = .ok (.slice (some ⟨W'.heap.size, 0, none⟩) n n) (W'.alloc (.cells (madeCells #[.int .u8 0] n) 5)) := fun W' => zeros_make W' n (by omega)
      have HSU : Hid (∀ W, Calls Try.prog 12 #[] W fun e w' => e = .returned (.bool true) ∧ Below W.heap.size W w') := sure_
      have q1 := xor_ (sm 0 (xs.take n)) (sm 0 (ys.take n)) (sm_lt _ _) (sm_lt _ _)
      have q2 := xor_ (sm 0 (xs.take n) ^^^ sm 0 (ys.take n)) (sm 0 (List.replicate n 0)) (Nat.xor_lt_two_pow (n := 32) (sm_lt _ _) (sm_lt _ _)) (sm_lt _ _)
      rw [hst] at q2
      generalize sm 0 (xs.take n) ^^^ sm 0 (ys.take n) = sq at *
      generalize sm 0 (xs.take n) = sa at *
      generalize sm 0 (ys.take n) = sb at *
      generalize sm 0 (List.replicate n 0) = sz at *
      generalize sm 0 Z = sc at *
      generalize xs.take n = XS at *
      generalize ys.take n = YS at *
      generalize List.replicate n 0 = ZS at *
      generalize madeCells #[.int .u8 0] n = ZC at *
      clear hst hZt hbX hbY hbZ hbC hlX hlY hlZ hlC hZi hO' hO HZ HZL HZZ HN HB HB2 Hx Hy HC HD HLX HLY HI
      go_wp2_with fail
      refine wp_region_noPanic ?_
      go_region_held_law (fun W' => Below W.heap.size W W') (first | assumption | exact Below.refl _ _ | exact below_drew _ | exact below_step (by assumption) (by assumption) | exact below_new (by assumption) _)
        (first
          | (go_at_call 7; refine (HTa.out _ (by assumption)).mono ?_; rintro e w' ⟨a', c', rfl, hin, hbb⟩)
          | (go_at_call 7; refine (HTb.out _ (by assumption)).mono ?_; rintro e w' ⟨a', c', rfl, hin, hbb⟩)
          | (go_at_call 9; refine (HSc.out _ (by assumption)).mono ?_; rintro e w' ⟨rfl, hbb⟩)
          | (go_at_call 9; refine (HSa.out _ _ _ (by first | assumption | exact BytesIn.new (by assumption) _)).mono ?_; rintro e w' ⟨rfl, hbb⟩)
          | (go_at_call 9; refine (HSb.out _ _ _ (by first | assumption | exact BytesIn.new (by assumption) _)).mono ?_; rintro e w' ⟨rfl, hbb⟩)
          | (go_at_call 9; refine (HSz.out _ _ _ (by first | exact HMK.out _ | exact (HMK.out _).on (by assumption) | exact ((HMK.out _).on (by assumption)).on (by assumption) | exact (((HMK.out _).on (by assumption)).on (by assumption)).on (by assumption) | exact ((((HMK.out W.drew).on (by assumption)).on (by assumption)).on (by assumption)).on (by assumption))).mono ?_; rintro e w' ⟨rfl, hbb⟩)
          | (go_at_call 12; refine (HSU.out _).mono ?_; rintro e w' ⟨rfl, hbb⟩)
          | fail)
      all_goals
        refine NoPanic.normal ?_
        go_wp2_with fail
        go_ret
        exact ⟨rfl, below_step hb.out (by assumption)⟩
    · have hlt : decide (i < n) = true := decide_eq_true (by omega)
      obtain ⟨b0, o0, rfl, hca⟩ := HB.out i (by rw [HLX.out]; omega)
      obtain ⟨b1, o1, rfl, hcb⟩ := HB2.out i (by rw [HLY.out]; omega)
      have hxi := byte_at Hx.out i
      have hyi := byte_at Hy.out i
      have hz := HZ.out i (by omega) (by omega)
      generalize xs.getD i 0 = x at *
      generalize ys.getD i 0 = y at *
      have hxy := u8_xor_nat x y hxi hyi
      have CA : ∀ W', Below w.heap.size w W' → W'.cell? ⟨b0, o0 + i, none⟩ = some (.int .u8 (x : Int)) := fun W' hW => (hW.cell (block_lt_of_cell hca)).trans hca
      have CB : ∀ W', Below w.heap.size w W' → W'.cell? ⟨b1, o1 + i, none⟩ = some (.int .u8 (y : Int)) := fun W' hW => (hW.cell (block_lt_of_cell hcb)).trans hcb
      generalize x ^^^ y = z at *
      have HZi := Lib.hid hz
      have hil : ((i : Int) < (lx : Int)) := by omega
      have hil2 : ((i : Int) < (ly : Int)) := by omega
      have hlen : (Z.take i).length = i := by rw [List.length_take, HZL.out]; omega
      have HLE := Lib.hid hlen
      have hs := hb.out.size
      clear hz hca hcb hxi hyi hlen
      go_wp2_with fail
      refine wp_region_noPanic ?_
      go_region_held_law (fun W' => Below w.heap.size w W') (first | assumption | exact hb.out | exact hb.out.drew | exact (Below.alloc (by assumption) (by simp; omega) _))
        (first
          | (refine step_append_bytes _ rfl _ _ rfl w.heap.size _ (Z.take i) [z] rfl (own_alloc (own_drew hO.out) _) _ 1 1 rfl rfl (fun hh => by cases hh) (one_byte _ z) (by rw [HLE.out]; simp; omega) (by simp; omega) ?_
             intro v' w2 hown hgrow
             have hbn : Below w.heap.size w w2 := below_grow (by assumption) (own_alloc (own_drew hO.out) _) hgrow
             have HON := Lib.hid hown
             clear hown hgrow))
      refine NoPanic.normal ?_
      go_wp2_with fail
      go_roundw
      case rel => exact ⟨i + 1, by go_num, by omega, by rw [HZi.out]; exact HON, Lib.hid hbn⟩
      case measure => simp [intOf]; omega
end Go.Proofs.Ytjgkoamhmmofbaa
