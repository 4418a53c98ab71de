/- The walks of row.truthByte and row.lay. -/
import Derived.Test.YtlldamgnfaikhaaDoorRwMem
import Derived.Test.YtlldamgnfaikhaaDoorRwPack
namespace Go.Proofs.YtlldamgnfaikhaaDoor
open Go.RowKit Go.Sort

theorem truth_ (b : Bool) (w : World) : Calls Tryd.prog 32 #[.bool b] w fun e w' => e = .returned (.int .u8 ((if b = true then 1 else 0 : Nat) : Int)) ∧ w' = w := by
  cases b
  all_goals
    go_enter Tryd.func32, Tryd.ntmps32
    go_wp2_with fail
    go_ret
    exact ⟨rfl, rfl⟩
theorem far4 {W1 Wa w2 : World} {B : Nat} {k n : Int} {t : ByteArray} {b : Bool} {v : Value} (h : In4 W1 B 0 k n t b) (hb : Below W1.heap.size W1 Wa) (hg : Wa.grownBy w2 v.ownBlock) (hne : some B ≠ v.ownBlock) : In4 w2 B 0 k n t b := by
  obtain ⟨h0, h1, h2, h3⟩ := h.on hb
  exact ⟨(hg.cell_far _ (block_lt_of_cell h0) hne).trans h0, (hg.cell_far _ (block_lt_of_cell h1) hne).trans h1, (hg.cell_far _ (block_lt_of_cell h2) hne).trans h2, (hg.cell_far _ (block_lt_of_cell h3) hne).trans h3⟩
set_option maxRecDepth 100000 in
set_option maxHeartbeats 1000000 in
theorem rlay_null (N : Nat) (n : Int) (t : ByteArray) (b : Bool) (v : Value) (xs : List Nat) (w : World) (hN : N ≤ w.heap.size) (hl : xs.length + 5000 ≤ 140737488355328) (hown : Own w N v xs) :
    Calls Tryd.prog 17 #[v, .agg #[.int .i64 0, .int .i64 n, .string t, .bool b]] w fun e w' => ∃ v', e = .returned v' ∧ Own w' N v' (xs ++ layV ⟨0, n, t, b⟩) ∧ Below N w w' := by
  obtain ⟨ZS, hZ⟩ : ∃ ZS, ZS = xs ++ layV ⟨0, n, t, b⟩ := ⟨_, rfl⟩
  have HZ : Hid (∀ (v' : Value) (W : World), Own W N v' (xs ++ [0]) → Own W N v' ZS) := fun v' W h => by rw [hZ]; exact h
  have hal : Below w.heap.size w (w.alloc (.cells #[.int .i64 0, .int .i64 n, .string t, .bool b] 47)) := (Below.refl _ _).alloc (Nat.le_refl _) _
  have HO := Lib.hid (hown.on hal)
  have HB := Lib.hid (hal.mono hN)
  have HNE := Lib.hid (hown.far (B := w.heap.size) (Nat.le_refl _))
  have HP := Lib.hid (in4_new w 0 n t b 47)
  obtain ⟨p0, p1, p2, p3⟩ := HP.out
  have HN := Lib.hid hN
  rw [← hZ]
  clear hown hal hN hZ
  go_enter Tryd.func17, Tryd.ntmps17
  go_wp2_with (first
    | (at_builtin; refine wpList_append_bytes _ rfl _ _ rfl N _ xs [0] rfl (HO.out.on (by first | exact ((Below.refl _ _).alloc (Nat.le_refl _) _).drew | exact (Below.refl _ _).drew.alloc (Nat.le_refl _) _ | exact (Below.refl _ _).alloc (Nat.le_refl _) _)) (some ⟨_, 0, none⟩) 1 1 rfl rfl (fun h => by cases h) (one_at _ _ (by simp) 0) (by simp; omega) (Nat.le_trans HN.out (Nat.le_trans HB.out.size (by simp))) ?_
       intro v' w2 hown hg
       have HO2 := Lib.hid (HZ.out _ _ hown)
       have HB2 := Lib.hid (below_grow HN.out (below_stepN HN.out HB.out (by first | exact ((Below.refl _ _).alloc (Nat.le_refl _) _).drew | exact (Below.refl _ _).drew.alloc (Nat.le_refl _) _ | exact (Below.refl _ _).alloc (Nat.le_refl _) _)) (HO.out.on (by first | exact ((Below.refl _ _).alloc (Nat.le_refl _) _).drew | exact (Below.refl _ _).drew.alloc (Nat.le_refl _) _ | exact (Below.refl _ _).alloc (Nat.le_refl _) _)) hg)
       clear hown hg HO)
    | fail)
  go_ret
  exact ⟨_, rfl, HO2.out, HB2.out⟩
set_option maxRecDepth 100000 in
set_option maxHeartbeats 1000000 in
theorem rlay_int (N : Nat) (n : Int) (t : ByteArray) (b : Bool) (v : Value) (xs : List Nat) (w : World) (hN : N ≤ w.heap.size) (hn : inI n) (hl : xs.length + 5000 ≤ 140737488355328) (hown : Own w N v xs) :
    Calls Tryd.prog 17 #[v, .agg #[.int .i64 1, .int .i64 n, .string t, .bool b]] w fun e w' => ∃ v', e = .returned v' ∧ Own w' N v' (xs ++ layV ⟨1, n, t, b⟩) ∧ Below N w w' := by
  obtain ⟨ZS, hZ⟩ : ∃ ZS, ZS = xs ++ layV ⟨1, n, t, b⟩ := ⟨_, rfl⟩
  obtain ⟨YS, hY⟩ : ∃ YS, YS = xs ++ [1] := ⟨_, rfl⟩
  obtain ⟨ES, hES⟩ : ∃ ES, ES = enc (zz n) := ⟨_, rfl⟩
  have hel : ES.length ≤ 4110 := by have := enc_le10 (zz n) (zz_lt n hn.1 hn.2); rw [hES]; omega
  have hln : YS.length + ES.length ≤ 140737488355328 := by rw [hY]; simp; omega
  have HA : Hid (∀ W, Calls Tryd.prog 30 #[.slice none 0 0, .int .i64 n] W (Laid W ES)) := fun W => by rw [hES]; exact appI_ none [] 0 0 n W rfl (bytesIn_nil _ _) (fun _ => rfl) hn.1 hn.2 (by simp)
  have HY : Hid (∀ (v' : Value) (W : World), Own W N v' (xs ++ [1]) → Own W N v' YS) := fun v' W h => by rw [hY]; exact h
  have HZ : Hid (∀ (v' : Value) (W : World), Own W N v' (YS ++ ES) → Own W N v' ZS) := fun v' W h => by rw [hZ]; rw [hY, hES, List.append_assoc] at h; exact h
  have hal : Below w.heap.size w (w.alloc (.cells #[.int .i64 1, .int .i64 n, .string t, .bool b] 47)) := (Below.refl _ _).alloc (Nat.le_refl _) _
  have HO := Lib.hid (hown.on hal)
  have HB := Lib.hid (hal.mono hN)
  have HNE := Lib.hid (hown.far (B := w.heap.size) (Nat.le_refl _))
  have HP := Lib.hid (in4_new w 1 n t b 47)
  obtain ⟨p0, p1, p2, p3⟩ := HP.out
  have HN := Lib.hid hN
  rw [← hZ]
  clear hown hal hN hZ hY hES
  go_enter Tryd.func17, Tryd.ntmps17
  go_wp2_with (first
    | (at_builtin; refine wpList_append_bytes _ rfl _ _ rfl N _ xs [1] rfl (HO.out.on (by first | exact ((Below.refl _ _).alloc (Nat.le_refl _) _).drew | exact (Below.refl _ _).drew.alloc (Nat.le_refl _) _ | exact (Below.refl _ _).alloc (Nat.le_refl _) _)) (some ⟨_, 0, none⟩) 1 1 rfl rfl (fun h => by cases h) (one_at _ _ (by simp) 1) (by simp; omega) (Nat.le_trans HN.out (Nat.le_trans HB.out.size (by simp))) ?_
       intro v' w2 hown hg
       have HO2 := Lib.hid (HY.out _ _ hown)
       have HS := Lib.hid (far4 HP.out (by first | exact ((Below.refl _ _).alloc (Nat.le_refl _) _).drew | exact (Below.refl _ _).drew.alloc (Nat.le_refl _) _ | exact (Below.refl _ _).alloc (Nat.le_refl _) _) hg HNE.out)
       obtain ⟨s0, s1, s2, s3⟩ := HS.out
       have HB2 := Lib.hid (below_grow HN.out (below_stepN HN.out HB.out (by first | exact ((Below.refl _ _).alloc (Nat.le_refl _) _).drew | exact (Below.refl _ _).drew.alloc (Nat.le_refl _) _ | exact (Below.refl _ _).alloc (Nat.le_refl _) _)) (HO.out.on (by first | exact ((Below.refl _ _).alloc (Nat.le_refl _) _).drew | exact (Below.refl _ _).drew.alloc (Nat.le_refl _) _ | exact (Below.refl _ _).alloc (Nat.le_refl _) _)) hg)
       clear hown hg HO)
    | fail)
  refine (HA.out _).mono ?_
  rintro e w3 ⟨g, c3, rfl, ho3, hb3⟩
  have HI3 := Lib.hid ho3.cells.2.1
  have HO3 := Lib.hid (HO2.out.on hb3)
  have HB3 := Lib.hid (below_stepN HN.out HB2.out hb3)
  clear ho3 hb3 HO2 HB2 HB HA HY HS HP HNE s0 s1 s2 s3 p0 p1 p2 p3
  generalize hm : ES.length = m at *
  go_wp2_with (first
    | (at_builtin; refine wpList_append_bytes _ rfl _ _ rfl N _ YS ES rfl HO3.out (some ⟨g, 0, none⟩) m c3 rfl hm (fun h => by cases h) HI3.out (by omega) (Nat.le_trans HN.out HB3.out.size) ?_
       intro v4 w4 hown hg
       have HO4 := Lib.hid (HZ.out _ _ hown)
       have HB4 := Lib.hid (below_grow HN.out HB3.out HO3.out hg)
       clear hown hg HO3)
    | fail)
  go_ret
  exact ⟨_, rfl, HO4.out, HB4.out⟩
set_option maxRecDepth 100000 in
set_option maxHeartbeats 1000000 in
theorem rlay_text (N : Nat) (n : Int) (t : ByteArray) (b : Bool) (v : Value) (xs : List Nat) (w : World) (hN : N ≤ w.heap.size) (ht : t.size ≤ 4096) (hl : xs.length + 5000 ≤ 140737488355328) (hown : Own w N v xs) :
    Calls Tryd.prog 17 #[v, .agg #[.int .i64 2, .int .i64 n, .string t, .bool b]] w fun e w' => ∃ v', e = .returned v' ∧ Own w' N v' (xs ++ layV ⟨2, n, t, b⟩) ∧ Below N w w' := by
  obtain ⟨ZS, hZ⟩ : ∃ ZS, ZS = xs ++ layV ⟨2, n, t, b⟩ := ⟨_, rfl⟩
  obtain ⟨YS, hY⟩ : ∃ YS, YS = xs ++ [1] := ⟨_, rfl⟩
  obtain ⟨ES, hES⟩ : ∃ ES, ES = enc t.size ++ sb t := ⟨_, rfl⟩
  have hel : ES.length ≤ 4110 := by have := enc_le10 t.size (by omega); rw [hES, List.length_append, sb_length]; omega
  have hln : YS.length + ES.length ≤ 140737488355328 := by rw [hY]; simp; omega
  have HA : Hid (∀ W, Calls Tryd.prog 31 #[.slice none 0 0, .string t] W (Laid W ES)) := fun W => by rw [hES]; exact appT_ none [] 0 0 t W rfl (bytesIn_nil _ _) (fun _ => rfl) (by simp; omega)
  have HY : Hid (∀ (v' : Value) (W : World), Own W N v' (xs ++ [1]) → Own W N v' YS) := fun v' W h => by rw [hY]; exact h
  have HZ : Hid (∀ (v' : Value) (W : World), Own W N v' (YS ++ ES) → Own W N v' ZS) := fun v' W h => by rw [hZ]; rw [hY, hES, List.append_assoc] at h; exact h
  have hal : Below w.heap.size w (w.alloc (.cells #[.int .i64 2, .int .i64 n, .string t, .bool b] 47)) := (Below.refl _ _).alloc (Nat.le_refl _) _
  have HO := Lib.hid (hown.on hal)
  have HB := Lib.hid (hal.mono hN)
  have HNE := Lib.hid (hown.far (B := w.heap.size) (Nat.le_refl _))
  have HP := Lib.hid (in4_new w 2 n t b 47)
  obtain ⟨p0, p1, p2, p3⟩ := HP.out
  have HN := Lib.hid hN
  rw [← hZ]
  clear hown hal hN hZ hY hES
  go_enter Tryd.func17, Tryd.ntmps17
  go_wp2_with (first
    | (at_builtin; refine wpList_append_bytes _ rfl _ _ rfl N _ xs [1] rfl (HO.out.on (by first | exact ((Below.refl _ _).alloc (Nat.le_refl _) _).drew | exact (Below.refl _ _).drew.alloc (Nat.le_refl _) _ | exact (Below.refl _ _).alloc (Nat.le_refl _) _)) (some ⟨_, 0, none⟩) 1 1 rfl rfl (fun h => by cases h) (one_at _ _ (by simp) 1) (by simp; omega) (Nat.le_trans HN.out (Nat.le_trans HB.out.size (by simp))) ?_
       intro v' w2 hown hg
       have HO2 := Lib.hid (HY.out _ _ hown)
       have HS := Lib.hid (far4 HP.out (by first | exact ((Below.refl _ _).alloc (Nat.le_refl _) _).drew | exact (Below.refl _ _).drew.alloc (Nat.le_refl _) _ | exact (Below.refl _ _).alloc (Nat.le_refl _) _) hg HNE.out)
       obtain ⟨s0, s1, s2, s3⟩ := HS.out
       have HB2 := Lib.hid (below_grow HN.out (below_stepN HN.out HB.out (by first | exact ((Below.refl _ _).alloc (Nat.le_refl _) _).drew | exact (Below.refl _ _).drew.alloc (Nat.le_refl _) _ | exact (Below.refl _ _).alloc (Nat.le_refl _) _)) (HO.out.on (by first | exact ((Below.refl _ _).alloc (Nat.le_refl _) _).drew | exact (Below.refl _ _).drew.alloc (Nat.le_refl _) _ | exact (Below.refl _ _).alloc (Nat.le_refl _) _)) hg)
       clear hown hg HO)
    | fail)
  refine (HA.out _).mono ?_
  rintro e w3 ⟨g, c3, rfl, ho3, hb3⟩
  have HI3 := Lib.hid ho3.cells.2.1
  have HO3 := Lib.hid (HO2.out.on hb3)
  have HB3 := Lib.hid (below_stepN HN.out HB2.out hb3)
  clear ho3 hb3 HO2 HB2 HB HA HY HS HP HNE s0 s1 s2 s3 p0 p1 p2 p3
  generalize hm : ES.length = m at *
  go_wp2_with (first
    | (at_builtin; refine wpList_append_bytes _ rfl _ _ rfl N _ YS ES rfl HO3.out (some ⟨g, 0, none⟩) m c3 rfl hm (fun h => by cases h) HI3.out (by omega) (Nat.le_trans HN.out HB3.out.size) ?_
       intro v4 w4 hown hg
       have HO4 := Lib.hid (HZ.out _ _ hown)
       have HB4 := Lib.hid (below_grow HN.out HB3.out HO3.out hg)
       clear hown hg HO3)
    | fail)
  go_ret
  exact ⟨_, rfl, HO4.out, HB4.out⟩
set_option maxRecDepth 100000 in
set_option maxHeartbeats 1000000 in
theorem rlay_true (N : Nat) (n : Int) (t : ByteArray) (v : Value) (xs : List Nat) (w : World) (hN : N ≤ w.heap.size) (hl : xs.length + 5000 ≤ 140737488355328) (hown : Own w N v xs) :
    Calls Tryd.prog 17 #[v, .agg #[.int .i64 3, .int .i64 n, .string t, .bool true]] w fun e w' => ∃ v', e = .returned v' ∧ Own w' N v' (xs ++ layV ⟨3, n, t, true⟩) ∧ Below N w w' := by
  obtain ⟨ZS, hZ⟩ : ∃ ZS, ZS = xs ++ layV ⟨3, n, t, true⟩ := ⟨_, rfl⟩
  obtain ⟨YS, hY⟩ : ∃ YS, YS = xs ++ [1] := ⟨_, rfl⟩
  have hln : YS.length + 1 ≤ 140737488355328 := by rw [hY]; simp; omega
  have HA : Hid (∀ W, Calls Tryd.prog 32 #[.bool true] W fun e w' => e = .returned (.int .u8 ((1 : Nat) : Int)) ∧ w' = W) := fun W => truth_ true W
  have HY : Hid (∀ (v' : Value) (W : World), Own W N v' (xs ++ [1]) → Own W N v' YS) := fun v' W h => by rw [hY]; exact h
  have HZ : Hid (∀ (v' : Value) (W : World), Own W N v' (YS ++ [1]) → Own W N v' ZS) := fun v' W h => by rw [hZ]; rw [hY, List.append_assoc] at h; exact h
  have hal : Below w.heap.size w (w.alloc (.cells #[.int .i64 3, .int .i64 n, .string t, .bool true] 47)) := (Below.refl _ _).alloc (Nat.le_refl _) _
  have HO := Lib.hid (hown.on hal)
  have HB := Lib.hid (hal.mono hN)
  have HNE := Lib.hid (hown.far (B := w.heap.size) (Nat.le_refl _))
  have HP := Lib.hid (in4_new w 3 n t true 47)
  obtain ⟨p0, p1, p2, p3⟩ := HP.out
  have HN := Lib.hid hN
  rw [← hZ]
  clear hown hal hN hZ hY
  go_enter Tryd.func17, Tryd.ntmps17
  go_wp2_with (first
    | (at_builtin; refine wpList_append_bytes _ rfl _ _ rfl N _ xs [1] rfl (HO.out.on (by first | exact ((Below.refl _ _).alloc (Nat.le_refl _) _).drew | exact (Below.refl _ _).drew.alloc (Nat.le_refl _) _ | exact (Below.refl _ _).alloc (Nat.le_refl _) _)) (some ⟨_, 0, none⟩) 1 1 rfl rfl (fun h => by cases h) (one_at _ _ (by simp) 1) (by simp; omega) (Nat.le_trans HN.out (Nat.le_trans HB.out.size (by simp))) ?_
       intro v' w2 hown hg
       have HO2 := Lib.hid (HY.out _ _ hown)
       have HS := Lib.hid (far4 HP.out (by first | exact ((Below.refl _ _).alloc (Nat.le_refl _) _).drew | exact (Below.refl _ _).drew.alloc (Nat.le_refl _) _ | exact (Below.refl _ _).alloc (Nat.le_refl _) _) hg HNE.out)
       obtain ⟨s0, s1, s2, s3⟩ := HS.out
       have HB2 := Lib.hid (below_grow HN.out (below_stepN HN.out HB.out (by first | exact ((Below.refl _ _).alloc (Nat.le_refl _) _).drew | exact (Below.refl _ _).drew.alloc (Nat.le_refl _) _ | exact (Below.refl _ _).alloc (Nat.le_refl _) _)) (HO.out.on (by first | exact ((Below.refl _ _).alloc (Nat.le_refl _) _).drew | exact (Below.refl _ _).drew.alloc (Nat.le_refl _) _ | exact (Below.refl _ _).alloc (Nat.le_refl _) _)) hg)
       clear hown hg HO)
    | fail)
  refine (HA.out _).mono ?_
  rintro e w3 ⟨rfl, rfl⟩
  have HO3 := Lib.hid (HO2.out.on ((Below.refl w3.heap.size w3).alloc (Nat.le_refl _) (.cells #[.int .u8 ((1 : Nat) : Int)] 5)))
  have HB3 := Lib.hid (below_stepN HN.out HB2.out ((Below.refl w3.heap.size w3).alloc (Nat.le_refl _) (.cells #[.int .u8 ((1 : Nat) : Int)] 5)))
  have HI3 := Lib.hid (one_new w3 _ 1 rfl)
  clear HO2 HB2 HB HA HY HS HP HNE s0 s1 s2 s3 p0 p1 p2 p3
  go_wp2_with (first
    | (at_builtin; refine wpList_append_bytes _ rfl _ _ rfl N _ YS [1] rfl HO3.out (some ⟨w3.heap.size, 0, none⟩) 1 1 rfl rfl (fun h => by cases h) HI3.out hln (Nat.le_trans HN.out HB3.out.size) ?_
       intro v4 w4 hown hg
       have HO4 := Lib.hid (HZ.out _ _ hown)
       have HB4 := Lib.hid (below_grow HN.out HB3.out HO3.out hg)
       clear hown hg HO3)
    | fail)
  go_ret
  exact ⟨_, rfl, HO4.out, HB4.out⟩
set_option maxRecDepth 100000 in
set_option maxHeartbeats 1000000 in
theorem rlay_false (N : Nat) (n : Int) (t : ByteArray) (v : Value) (xs : List Nat) (w : World) (hN : N ≤ w.heap.size) (hl : xs.length + 5000 ≤ 140737488355328) (hown : Own w N v xs) :
    Calls Tryd.prog 17 #[v, .agg #[.int .i64 3, .int .i64 n, .string t, .bool false]] w fun e w' => ∃ v', e = .returned v' ∧ Own w' N v' (xs ++ layV ⟨3, n, t, false⟩) ∧ Below N w w' := by
  obtain ⟨ZS, hZ⟩ : ∃ ZS, ZS = xs ++ layV ⟨3, n, t, false⟩ := ⟨_, rfl⟩
  obtain ⟨YS, hY⟩ : ∃ YS, YS = xs ++ [1] := ⟨_, rfl⟩
  have hln : YS.length + 1 ≤ 140737488355328 := by rw [hY]; simp; omega
  have HA : Hid (∀ W, Calls Tryd.prog 32 #[.bool false] W fun e w' => e = .returned (.int .u8 ((0 : Nat) : Int)) ∧ w' = W) := fun W => truth_ false W
  have HY : Hid (∀ (v' : Value) (W : World), Own W N v' (xs ++ [1]) → Own W N v' YS) := fun v' W h => by rw [hY]; exact h
  have HZ : Hid (∀ (v' : Value) (W : World), Own W N v' (YS ++ [0]) → Own W N v' ZS) := fun v' W h => by rw [hZ]; rw [hY, List.append_assoc] at h; exact h
  have hal : Below w.heap.size w (w.alloc (.cells #[.int .i64 3, .int .i64 n, .string t, .bool false] 47)) := (Below.refl _ _).alloc (Nat.le_refl _) _
  have HO := Lib.hid (hown.on hal)
  have HB := Lib.hid (hal.mono hN)
  have HNE := Lib.hid (hown.far (B := w.heap.size) (Nat.le_refl _))
  have HP := Lib.hid (in4_new w 3 n t false 47)
  obtain ⟨p0, p1, p2, p3⟩ := HP.out
  have HN := Lib.hid hN
  rw [← hZ]
  clear hown hal hN hZ hY
  go_enter Tryd.func17, Tryd.ntmps17
  go_wp2_with (first
    | (at_builtin; refine wpList_append_bytes _ rfl _ _ rfl N _ xs [1] rfl (HO.out.on (by first | exact ((Below.refl _ _).alloc (Nat.le_refl _) _).drew | exact (Below.refl _ _).drew.alloc (Nat.le_refl _) _ | exact (Below.refl _ _).alloc (Nat.le_refl _) _)) (some ⟨_, 0, none⟩) 1 1 rfl rfl (fun h => by cases h) (one_at _ _ (by simp) 1) (by simp; omega) (Nat.le_trans HN.out (Nat.le_trans HB.out.size (by simp))) ?_
       intro v' w2 hown hg
       have HO2 := Lib.hid (HY.out _ _ hown)
       have HS := Lib.hid (far4 HP.out (by first | exact ((Below.refl _ _).alloc (Nat.le_refl _) _).drew | exact (Below.refl _ _).drew.alloc (Nat.le_refl _) _ | exact (Below.refl _ _).alloc (Nat.le_refl _) _) hg HNE.out)
       obtain ⟨s0, s1, s2, s3⟩ := HS.out
       have HB2 := Lib.hid (below_grow HN.out (below_stepN HN.out HB.out (by first | exact ((Below.refl _ _).alloc (Nat.le_refl _) _).drew | exact (Below.refl _ _).drew.alloc (Nat.le_refl _) _ | exact (Below.refl _ _).alloc (Nat.le_refl _) _)) (HO.out.on (by first | exact ((Below.refl _ _).alloc (Nat.le_refl _) _).drew | exact (Below.refl _ _).drew.alloc (Nat.le_refl _) _ | exact (Below.refl _ _).alloc (Nat.le_refl _) _)) hg)
       clear hown hg HO)
    | fail)
  refine (HA.out _).mono ?_
  rintro e w3 ⟨rfl, rfl⟩
  have HO3 := Lib.hid (HO2.out.on ((Below.refl w3.heap.size w3).alloc (Nat.le_refl _) (.cells #[.int .u8 ((0 : Nat) : Int)] 5)))
  have HB3 := Lib.hid (below_stepN HN.out HB2.out ((Below.refl w3.heap.size w3).alloc (Nat.le_refl _) (.cells #[.int .u8 ((0 : Nat) : Int)] 5)))
  have HI3 := Lib.hid (one_new w3 _ 0 rfl)
  clear HO2 HB2 HB HA HY HS HP HNE s0 s1 s2 s3 p0 p1 p2 p3
  go_wp2_with (first
    | (at_builtin; refine wpList_append_bytes _ rfl _ _ rfl N _ YS [0] rfl HO3.out (some ⟨w3.heap.size, 0, none⟩) 1 1 rfl rfl (fun h => by cases h) HI3.out hln (Nat.le_trans HN.out HB3.out.size) ?_
       intro v4 w4 hown hg
       have HO4 := Lib.hid (HZ.out _ _ hown)
       have HB4 := Lib.hid (below_grow HN.out HB3.out HO3.out hg)
       clear hown hg HO3)
    | fail)
  go_ret
  exact ⟨_, rfl, HO4.out, HB4.out⟩
/-- What lay lays. -/
theorem rlay_ (N : Nat) (k n : Int) (t : ByteArray) (b : Bool) (v : Value) (xs : List Nat) (w : World) (hN : N ≤ w.heap.size) (hv : validN ⟨k, n, t, b⟩ = 0) (hn : inI n) (hl : xs.length + 5000 ≤ 140737488355328) (hown : Own w N v xs) :
    Calls Tryd.prog 17 #[v, .agg #[.int .i64 k, .int .i64 n, .string t, .bool b]] w fun e w' => ∃ v', e = .returned v' ∧ Own w' N v' (xs ++ layV ⟨k, n, t, b⟩) ∧ Below N w w' := by
  have hk := valid_kind (fit_of_valid hv)
  simp only at hk
  rcases hk with rfl | rfl | rfl | rfl
  · exact rlay_null N n t b v xs w hN hl hown
  · exact rlay_int N n t b v xs w hN hn hl hown
  · exact rlay_text N n t b v xs w hN (size_of_valid hv) hl hown
  · cases b
    · exact rlay_false N n t v xs w hN hl hown
    · exact rlay_true N n t v xs w hN hl hown
end Go.Proofs.YtlldamgnfaikhaaDoor
