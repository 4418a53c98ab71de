/- The document's clean. -/
import Derived.Test.YtjnhcanohefjiaaGreatDoorRjTie
import Derived.Test.YtjnhcanohefjiaaGreatDoorRcROne
namespace Go.Proofs.YtjnhcanohefjiaaGreatDoor
open Go.RowKit Go.Sort Go.Maps

/-- What the document's clean hands back. -/
def RclTo (w : World) (a : Ar) (row : List Nat) (d : Dev) (e : Ending) (w' : World) : Prop :=
  ∃ x' a' c', e = .returned (.tuple #[rdV x' a' c', .int .i64 (cleanE a row d : Nat)]) ∧ LstS w' a' c' x'.l ∧ Tie (cleanD a row d) x' ∧ Below w.heap.size w w'
/-- A device of the document's stored into the block that is handed back. -/
theorem rcl_end {w V V' : World} {B : Nat} {x : RD} {al : Option Addr} {cl : Nat} {d D : Dev} {E : Nat} {a : Ar} {row : List Nat} {old : Array Value} (hl : LstS V al cl x.l) (ht : Tie D x) (hD : cleanD a row d = D) (hE : cleanE a row d = E) (hb : Below w.heap.size w V) (hg : V.heap[B]? = some (.cells old 33 (0, 0))) (hB : w.heap.size ≤ B) (hp : Put V B (rdC x al x.l.length cl) 33 V') :
    RclTo w a row d (.returned (.tuple #[rdV x al cl, .int .i64 (E : Nat)])) V' :=
  ⟨x, al, cl, by rw [hE], hl.put hp (by decide) ⟨_, _, hg⟩, by rw [hD]; exact ht, hp.below hb hB⟩
/-- The loop under way. -/
structure RcI (w : World) (a : Ar) (wr : World) (D : Dev) (x : RD) (al : Option Addr) (cl : Nat) : Prop where
  tie : Tie D x
  ls : LstS wr al cl x.l
  rs : D.r = 2 ∧ D.s = 12
  lf : 0 ≤ D.left ∧ D.left ≤ 9223372036854775807
  dev : wr.heap[w.heap.size]? = some (.cells (rdC x al x.l.length cl) 33 (0, 0))
  ar : wr.heap[w.heap.size + 1]? = some (.cells #[.int .i64 a.g, .int .i64 a.f, .int .i64 a.s] 23 (0, 0))
  out : wr.heap[w.heap.size + 1 + 1]? = some (.cells #[.int .i64 0, .int .i64 0, .slice none 0 0, .bool false, .bool false, .int .i64 0] 33 (0, 0))
  bw : Below w.heap.size w wr
theorem RcI.on {w wr V : World} {a : Ar} {D : Dev} {x : RD} {al : Option Addr} {cl : Nat} (h : RcI w a wr D x al cl) (hb : Below wr.heap.size wr V) : RcI w a V D x al cl :=
  ⟨h.tie, h.ls.on hb, h.rs, h.lf, (hb.block _ (blk_lt h.dev)).trans h.dev, (hb.block _ (blk_lt h.ar)).trans h.ar, (hb.block _ (blk_lt h.out)).trans h.out, below_step h.bw hb⟩
theorem ar_cells {w : World} {b : Nat} {g f s : Int} {t : TypeId} {z : Nat × Nat} (h : w.heap[b]? = some (.cells #[.int .i64 g, .int .i64 f, .int .i64 s] t z)) : w.cell? ⟨b, 0, none⟩ = some (.int .i64 g) ∧ w.cell? ⟨b, 1, none⟩ = some (.int .i64 f) ∧ w.cell? ⟨b, 2, none⟩ = some (.int .i64 s) := ⟨cell_of h rfl, cell_of h rfl, cell_of h rfl⟩
theorem below3w (w : World) (o o' o'' : Obj) : Below w.heap.size w (((w.alloc o).alloc o').alloc o'') := below_step (below_step (below_alloc w o) (below_alloc _ _)) (below_alloc _ _)
theorem heap3w (w : World) (o o' o'' : Obj) : (((w.alloc o).alloc o').alloc o'').heap[w.heap.size]? = some o ∧ (((w.alloc o).alloc o').alloc o'').heap[w.heap.size + 1]? = some o' ∧ (((w.alloc o).alloc o').alloc o'').heap[w.heap.size + 1 + 1]? = some o'' := by
  have h0 := alloc_at w o
  have h1 := alloc_at (w.alloc o) o'
  have h2 := alloc_at ((w.alloc o).alloc o') o''
  simp only [World.size_alloc] at h1 h2
  exact ⟨alloc_old (alloc_old h0), alloc_old h1, h2⟩
/-- The document's device written over, in its box. -/
theorem RcI.wrote {w wr U2 U4 U5 : World} {a : Ar} {D D' : Dev} {x x' : RD} {al a' : Option Addr} {cl c' : Nat} (h : RcI w a wr D x al cl) (hb : Below wr.heap.size wr U2) (ht : Tie D' x') (hl : LstS U2 a' c' x'.l) (hrs : D'.r = 2 ∧ D'.s = 12) (hlf : 0 ≤ D'.left ∧ D'.left ≤ 9223372036854775807)
    (h4 : Put (U2.alloc (.cells #[.int .i64 0, .int .i64 0, .slice none 0 0, .bool false, .bool false, .int .i64 0] 33)) U2.heap.size (rdC x' a' x'.l.length c') 33 U4) (h5 : Put U4 w.heap.size (rdC x' a' x'.l.length c') 33 U5) : RcI w a U5 D' x' a' c' := by
  have hi := h.on hb
  have n1 := blk_lt hi.out
  have q1 : ∀ {k : Nat} {o : Obj}, U2.heap[k]? = some o → k ≠ w.heap.size → U5.heap[k]? = some o := fun {k o} hk hne => by
    rw [h5.far k hne, h4.far k (by have := blk_lt hk; omega)]
    exact alloc_old hk
  have hdev4 : U4.heap[w.heap.size]? = some (.cells (rdC x al x.l.length cl) 33 (0, 0)) := by rw [h4.far _ (by omega)]; exact alloc_old hi.dev
  refine ⟨ht, ?_, hrs, hlf, h5.blk, q1 hi.ar (by omega), q1 hi.out (by omega), ?_⟩
  · exact ((hl.on (below_alloc U2 _)).put h4 (by decide) ⟨_, _, alloc_at U2 _⟩).put h5 (by decide) ⟨_, _, hdev4⟩
  · exact h5.below (h4.below (below_step hi.bw (below_alloc U2 _)) (by omega)) (Nat.le_refl _)
set_option maxRecDepth 100000 in
set_option maxHeartbeats 4000000 in
theorem rclean_ {w : World} (x : RD) (al : Option Addr) (cl : Nat) (d : Dev) (a : Ar) (row : List Nat) (hLs : LstS w al cl x.l) (ht : Tie d x) (hok : okD d) (hrs : d.r = 2 ∧ d.s = 12) (hlf : 0 ≤ d.left ∧ d.left ≤ 9223372036854775807) (hp : d.pend = []) (hc : d.crashed = false) (hin : inJ d a) (hx : ∀ y ∈ row, y < 256) (hb : Begins d a row) (hl : row.length ≤ 64 * a.s.toNat) :
    Calls Tryz.prog 31 #[rdV x al cl, arV a, .string (bs row)] w (RclTo w a row d) := by
  obtain ⟨n, hn⟩ : ∃ n, n = a.s.toNat := ⟨_, rfl⟩
  have hi2 := hin
  obtain ⟨i1, i2, i3, i4, i5, i6⟩ := hi2
  rw [hrs.1] at i2
  rw [hrs.2] at i5 i6
  have hsn : a.s = (n : Int) := by omega
  have hn1 : 1 ≤ n ∧ n ≤ 12 := by omega
  rw [← hn] at hl
  have HSt : Hid (∀ (i : Nat) (D : Dev) (wr : Bool), i < n → clnS a row d i = (D, wr, 0) → _) := fun i D wr hi h => rcl_step hok hp hc hin hx hb (i := i) (by omega) h
  have HEnd : Hid (∀ (i : Nat) (D : Dev) (wr : Bool) (k : Nat), i ≤ n → clnS a row d i = (D, wr, k) → k ≠ 0 → cleanD a row d = D ∧ cleanE a row d = k) := fun i D wr k hi h hk => by
    have q := cln_end (a := a) (row := row) (d := d) (i := i) hn hi (by rw [h]; exact hk)
    rw [h] at q
    exact q
  have HDn : Hid (∀ (D : Dev) (wr : Bool), clnS a row d n = (D, wr, 0) → _) := fun D wr h => rcl_done hn h
  have HPb : Hid (∀ i, ∀ y ∈ fillC (partJ row i), y < 256) := fun i => (okC_fill (partJ_le row i) (partJ_byte hx i)).2
  have HPl : Hid (∀ i, (fillC (partJ row i)).length = 64) := fun i => fillC_full (partJ_le row i)
  have HRb : Hid (∀ (i : Nat) (D : Dev) (wr : Bool), i < n → clnS a row d i = (D, wr, 0) → (∀ y ∈ readD D (atJ a i), y < 256) ∧ (readD D (atJ a i)).length = 64) := fun i D wr hi h => by
    have q := (cln_inv hok hp hc hin hx hb i (by omega)).wk.ok
    rw [h] at q
    exact ⟨(okC_read q _).2, (okC_read q _).1⟩
  have HXb := Lib.hid hx
  have hrdV : rdV x al cl = .agg (rdC x al x.l.length cl) := rfl
  obtain ⟨W, hW⟩ : ∃ W, W = ((w.alloc (.cells (rdC x al x.l.length cl) 33)).alloc (.cells #[.int .i64 a.g, .int .i64 a.f, .int .i64 a.s] 23)).alloc (.cells #[.int .i64 0, .int .i64 0, .slice none 0 0, .bool false, .bool false, .int .i64 0] 33) := ⟨_, rfl⟩
  have H0 : Hid (RcI w a W d x al cl) := by
    have hbW : Below w.heap.size w W := by rw [hW]; exact below3w w _ _ _
    obtain ⟨q1, q2, q3⟩ := heap3w w (.cells (rdC x al x.l.length cl) 33) (.cells #[.int .i64 a.g, .int .i64 a.f, .int .i64 a.s] 23) (.cells #[.int .i64 0, .int .i64 0, .slice none 0 0, .bool false, .bool false, .int .i64 0] 33)
    rw [← hW] at q1 q2 q3
    exact ⟨ht, hLs.on hbW, hrs, hlf, q1, q2, q3, hbW⟩
  have hsz : (bs row).size = row.length := bs_size _
  have HDr : Hid (∀ i, (bs row).extract (64 * i) row.length = bs (row.drop (64 * i))) := fun i => by have q := bs_drop row (64 * i); rw [bs_size] at q; exact q
  obtain ⟨i0, hi0, hz0, hz1, hz2⟩ := info_parts infoB
  obtain ⟨ag, af, az⟩ := a
  unfold arV
  dsimp only at *
  subst hsn
  have HW := Lib.hid hW
  clear hLs ht hok hp hc hin hx hb hW hn hrs hlf
  unfold rdV rdC at *
  generalize hLL : row.length = L at *
  have HLL := Lib.hid hLL
  clear hLL
  generalize hSS : bs row = SS at *
  clear hSS
  go_enter Tryz.func31, Tryz.ntmps31
  go_wp2_with fail
  rw [← HW.out]
  clear HW
  go_loopw [8, 9] (fun bv iv wr => ∃ (i : Nat) (b : Bool) (D : Dev) (x : RD) (al : Option Addr) (cl : Nat), bv = .bool b ∧ iv = .int .i64 i ∧ i ≤ n ∧ Hid (clnS ⟨ag, af, (n : Int)⟩ row d i = (D, b, 0)) ∧ Hid (RcI w ⟨ag, af, (n : Int)⟩ wr D x al cl)) (fun _ iv _ => n - (intOf iv).toNat)
  case atStart => exact ⟨0, false, d, x, al, cl, rfl, rfl, Nat.zero_le _, rfl, H0⟩
  case round =>
    clear H0
    obtain ⟨i, b, D, x, al, cl, rfl, rfl, hin, HC, HI⟩ := hrel
    obtain ⟨y0, y1, y2⟩ := ar_cells HI.out.ar
    dsimp only at y0 y1 y2
    have hlen := tie_len HI.out.tie HI.out.rs
    by_cases hlt : i < n
    · have hlt2 : (i : Int) < (n : Int) := by omega
      obtain ⟨hre, hst1, hst2⟩ := HSt.out i D b hlt HC.out
      obtain ⟨hrb, hrl⟩ := HRb.out i D b hlt HC.out
      have HRd : Hid (Calls Tryz.prog 29 #[rdV x al cl, .int .i64 ag, .int .i64 (af + i)] wr fun e w' => e = .returned (.tuple #[.string (bs (readD D (atJ ⟨ag, af, (n : Int)⟩ i))), .int .i64 0]) ∧ Below wr.heap.size wr w') := by
        have q := rreadT x D (atJ ⟨ag, af, (n : Int)⟩ i) HI.out.ls HI.out.tie (by omega)
        rw [hre, if_pos rfl] at q
        exact q
      have HWr : Hid (∀ V, Below wr.heap.size wr V → Calls Tryz.prog 59 #[rdV x al cl, .int .i64 ag, .int .i64 (af + i), .string (bs (fillC (partJ row i)))] V fun e w' => (∃ a' c', e = .returned (.tuple #[rdV (writeR x D (atJ ⟨ag, af, (n : Int)⟩ i) (fillC (partJ row i))) a' c', .int .i64 (wErr D (atJ ⟨ag, af, (n : Int)⟩ i) 64 : Nat)]) ∧ LstS w' a' c' (writeR x D (atJ ⟨ag, af, (n : Int)⟩ i) (fillC (partJ row i))).l) ∧ Below V.heap.size V w') := fun V hV => by
        have q := rwrite_ x D (atJ ⟨ag, af, (n : Int)⟩ i) (fillC (partJ row i)) (HI.out.ls.on hV) HI.out.tie (HPb.out i) (by omega)
        rw [HPl.out i] at q
        exact q
      have HTw : Hid (Tie (writeD D (atJ ⟨ag, af, (n : Int)⟩ i) (fillC (partJ row i))) (writeR x D (atJ ⟨ag, af, (n : Int)⟩ i) (fillC (partJ row i)))) := tie_write HI.out.tie (HPb.out i) HI.out.lf
      have HRs : Hid ((writeD D (atJ ⟨ag, af, (n : Int)⟩ i) (fillC (partJ row i))).r = 2 ∧ (writeD D (atJ ⟨ag, af, (n : Int)⟩ i) (fillC (partJ row i))).s = 12) := by
        show _ ∧ _
        rw [(size_write _ _ _).1, (size_write _ _ _).2]; exact HI.out.rs
      have HLf := Lib.hid (left_write (atJ ⟨ag, af, (n : Int)⟩ i) (fillC (partJ row i)) HI.out.lf)
      have HEq : Hid (((bs (readD D (atJ ⟨ag, af, (n : Int)⟩ i))).toList == (bs (fillC (partJ row i))).toList) = decide (readD D (atJ ⟨ag, af, (n : Int)⟩ i) = fillC (partJ row i))) := bs_beq hrb (HPb.out i)
      have wi := wraps_i64 (af + i) (by omega) (by omega)
      have wm := wraps_i64 (64 * (i : Int)) (by omega) (by omega)
      have HNx1 := Lib.hid hst1
      have HNx2 := Lib.hid hst2
      have hPt : (row.drop (64 * i)).take 64 = partJ row i := rfl
      have HPt := Lib.hid hPt
      have HDx := Lib.hid (fun y (hy : y ∈ row.drop (64 * i)) => HXb.out y (List.mem_of_mem_drop hy))
      have HPz : Hid (L ≤ 64 * i → fillC (partJ row i) = zeroC) := fun q => by
        have e : partJ row i = [] := List.eq_nil_of_length_eq_zero (by rw [partJ_len, HLL.out]; omega)
        rw [e]; rfl
      have HPlen := Lib.hid (HPl.out i)
      clear hst1 hst2 hre hrb hrl hPt hlen
      generalize hTT : readD D (atJ ⟨ag, af, (n : Int)⟩ i) = TT at *
      generalize hPP : fillC (partJ row i) = PP at *
      generalize hEE : wErr D (atJ ⟨ag, af, (n : Int)⟩ i) 64 = EE at *
      generalize hXX : writeR x D (atJ ⟨ag, af, (n : Int)⟩ i) PP = X' at *
      generalize hDD : writeD D (atJ ⟨ag, af, (n : Int)⟩ i) PP = D' at *
      clear hTT hEE hXX hDD
      obtain ⟨r, s9, l, cr, ar, lf⟩ := x
      have GL : Hid (∀ U, Below wr.heap.size wr U → (Instr.loadAt 33 (.pointer (some ⟨w.heap.size, 0, none⟩))).run Tryz.prog U = .ok (.agg #[.int .i64 r, .int .i64 s9, .slice al l.length cl, .bool cr, .bool ar, .int .i64 lf]) U) := fun U hU => load_rd ((hU.block _ (blk_lt HI.out.dev)).trans HI.out.dev) rfl
      unfold rdV rdC at HRd HWr
      dsimp only at HRd HWr
      generalize l.length = L1 at *
      have HLd := Lib.hid (GL.out wr (Below.refl _ _))
      by_cases heq : TT = PP
      · rw [decide_eq_true heq] at HEq
        have hEq := HEq.out
        have HN := Lib.hid (HNx1.out heq)
        clear HNx1 HNx2 HEq heq
        by_cases hcp : 64 * i < L
        · have hcp2 : 64 * (i : Int) < (L : Int) := by omega
          have ht64 : (64 * (i : Int)).toNat = 64 * i := by omega
          have hex := HDr.out i
          have hle : 64 * i ≤ L := by omega
          go_wp2_with (first
            | (refine wpList_load_at rfl 33 _ rfl _ _ rfl HLd.out ?_)
            | (go_at_call 29; refine HRd.out.mono ?_; rintro e w2 ⟨rfl, hb2⟩
               have HB2 := Lib.hid hb2
               clear hb2 HLd HRd y0 y1 y2)
            | (at_make; refine wpList_make_full _ rfl _ _ 53 rfl w2.heap.size 5 i0 (.int .u8 0) 1 Tryz.underlying53 hi0 hz0 hz1 .i64 .i64 _ _ 64 rfl rfl rfl rfl (by rw [hz2]; omega) (by unfold maxLen; omega) (Nat.le_refl _) ?_
               intro W3 hown3 hgrow3
               have hb3 := made_block hown3
               have hB3 := below_step HB2.out (below_grown_none hgrow3)
               obtain ⟨W4, hcpy, hput⟩ := copy_any (xs := row.drop (64 * i)) 3 hb3 HDx.out
               have hb4 := hput.blk
               rw [HPt.out, hPP] at hb4
               have hB4 : Below wr.heap.size wr W4 := hput.below hB3 HB2.out.size
               clear hput
               have H4 := Lib.hid (And.intro hB4 (HI.out.on hB4))
               have hcv : (convert 53 9 (.slice (some ⟨w2.heap.size, 0, none⟩) 64 64)).run Tryz.prog W4 = .ok (.string (bs PP)) W4 := conv_ W4 _ 64 64 PP HPlen.out.symm (ct_bytes 5 hb4)
               have HLd4 := Lib.hid (GL.out W4 H4.out.1)
               have HW4 := Lib.hid (HWr.out W4 H4.out.1)
               obtain ⟨z0, z1, z2⟩ := ar_cells H4.out.2.ar
               dsimp only at z0 z1 z2
               clear hown3 hgrow3 hb3 hB3 hb4 hB4)
            | (refine wpList_load_at rfl 33 _ rfl _ _ rfl HLd4.out ?_)
            | fail)
          go_roundw
          case rel => exact ⟨i + 1, b, D, ⟨r, s9, l, cr, ar, lf⟩, al, cl, rfl, by go_num, by omega, HN, H4.out.2⟩
          case measure => simp [intOf]; omega
        · have hcp2 : ¬ 64 * (i : Int) < (L : Int) := by omega
          go_wp2_with (first
            | (refine wpList_load_at rfl 33 _ rfl _ _ rfl HLd.out ?_)
            | (go_at_call 29; refine HRd.out.mono ?_; rintro e w2 ⟨rfl, hb2⟩
               have HB2 := Lib.hid hb2
               clear hb2 HLd HRd y0 y1 y2)
            | (at_make; refine wpList_make_full _ rfl _ _ 53 rfl w2.heap.size 5 i0 (.int .u8 0) 1 Tryz.underlying53 hi0 hz0 hz1 .i64 .i64 _ _ 64 rfl rfl rfl rfl (by rw [hz2]; omega) (by unfold maxLen; omega) (Nat.le_refl _) ?_
               intro W3 hown3 hgrow3
               have hb3 := made_block hown3
               have hB3 := below_step HB2.out (below_grown_none hgrow3)
               obtain ⟨W4, hW4⟩ : ∃ W4, W4 = W3 := ⟨_, rfl⟩
               subst hW4
               have hb4 : W4.heap[w2.heap.size]? = some (.cells (vals PP).toArray 5 (0, 0)) := by rw [← hPP] at HPz ⊢; rw [HPz.out (by omega)]; exact hb3
               have hB4 := hB3
               have H4 := Lib.hid (And.intro hB4 (HI.out.on hB4))
               have hcv : (convert 53 9 (.slice (some ⟨w2.heap.size, 0, none⟩) 64 64)).run Tryz.prog W4 = .ok (.string (bs PP)) W4 := conv_ W4 _ 64 64 PP HPlen.out.symm (ct_bytes 5 hb4)
               have HLd4 := Lib.hid (GL.out W4 H4.out.1)
               have HW4 := Lib.hid (HWr.out W4 H4.out.1)
               obtain ⟨z0, z1, z2⟩ := ar_cells H4.out.2.ar
               dsimp only at z0 z1 z2
               clear hown3 hgrow3 hb3 hB3 hb4 hB4)
            | (refine wpList_load_at rfl 33 _ rfl _ _ rfl HLd4.out ?_)
            | fail)
          go_roundw
          case rel => exact ⟨i + 1, b, D, ⟨r, s9, l, cr, ar, lf⟩, al, cl, rfl, by go_num, by omega, HN, H4.out.2⟩
          case measure => simp [intOf]; omega
      · rw [decide_eq_false heq] at HEq
        have hEq := HEq.out
        obtain ⟨hN1, hN2⟩ := HNx2.out heq
        have HN1 := Lib.hid hN1
        have HN2 := Lib.hid hN2
        clear HNx1 HNx2 HEq hN1 hN2 heq
        by_cases hcp : 64 * i < L
        · have hcp2 : 64 * (i : Int) < (L : Int) := by omega
          have ht64 : (64 * (i : Int)).toNat = 64 * i := by omega
          have hex := HDr.out i
          have hle : 64 * i ≤ L := by omega
          go_wp2_with (first
            | (refine wpList_load_at rfl 33 _ rfl _ _ rfl HLd.out ?_)
            | (go_at_call 29; refine HRd.out.mono ?_; rintro e w2 ⟨rfl, hb2⟩
               have HB2 := Lib.hid hb2
               clear hb2 HLd HRd y0 y1 y2)
            | (at_make; refine wpList_make_full _ rfl _ _ 53 rfl w2.heap.size 5 i0 (.int .u8 0) 1 Tryz.underlying53 hi0 hz0 hz1 .i64 .i64 _ _ 64 rfl rfl rfl rfl (by rw [hz2]; omega) (by unfold maxLen; omega) (Nat.le_refl _) ?_
               intro W3 hown3 hgrow3
               have hb3 := made_block hown3
               have hB3 := below_step HB2.out (below_grown_none hgrow3)
               obtain ⟨W4, hcpy, hput⟩ := copy_any (xs := row.drop (64 * i)) 3 hb3 HDx.out
               have hb4 := hput.blk
               rw [HPt.out, hPP] at hb4
               have hB4 : Below wr.heap.size wr W4 := hput.below hB3 HB2.out.size
               clear hput
               have H4 := Lib.hid (And.intro hB4 (HI.out.on hB4))
               have hcv : (convert 53 9 (.slice (some ⟨w2.heap.size, 0, none⟩) 64 64)).run Tryz.prog W4 = .ok (.string (bs PP)) W4 := conv_ W4 _ 64 64 PP HPlen.out.symm (ct_bytes 5 hb4)
               have HLd4 := Lib.hid (GL.out W4 H4.out.1)
               have HW4 := Lib.hid (HWr.out W4 H4.out.1)
               obtain ⟨z0, z1, z2⟩ := ar_cells H4.out.2.ar
               dsimp only at z0 z1 z2
               clear hown3 hgrow3 hb3 hB3 hb4 hB4)
            | (refine wpList_load_at rfl 33 _ rfl _ _ rfl HLd4.out ?_)
            | fail)
          refine HW4.out.mono ?_
          rintro e U2 ⟨⟨a', c', rfl, hL2⟩, hb2⟩
          have hT2 := HTw.out
          obtain ⟨r', s', l', cr', ar', lf'⟩ := X'
          dsimp only at hT2 hL2 ⊢
          obtain ⟨U4, hs4, hp4⟩ := put_rd (cs := #[.int .i64 r', .int .i64 s', .slice a' l'.length c', .bool cr', .bool ar', .int .i64 lf']) (alloc_at U2 (.cells #[.int .i64 0, .int .i64 0, .slice none 0 0, .bool false, .bool false, .int .i64 0] 33)) rfl rfl (six_one _ _ _ _ _ _ _ _)
          have hdev4 : U4.heap[w.heap.size]? = some (.cells (rdC ⟨r, s9, l, cr, ar, lf⟩ al l.length cl) 33 (0, 0)) := by
            have hi := H4.out.2.on hb2
            rw [hp4.far _ (by have := blk_lt hi.out; omega)]; exact alloc_old hi.dev
          obtain ⟨U5, hs5, hp5⟩ := put_rd (cs := #[.int .i64 r', .int .i64 s', .slice a' l'.length c', .bool cr', .bool ar', .int .i64 lf']) hdev4 rfl rfl (six_one _ _ _ _ _ _ _ _)
          have HI5 : Hid (RcI w ⟨ag, af, (n : Int)⟩ U5 D' ⟨r', s', l', cr', ar', lf'⟩ a' c') := H4.out.2.wrote hb2 hT2 hL2 HRs.out HLf.out hp4 hp5
          have HL4 := Lib.hid (load_rd hp4.blk rfl)
          have HS4 := Lib.hid hs4
          have HS5 := Lib.hid hs5
          clear hT2 hL2 hb2 hs4 hp4 hdev4 hs5 hp5 HW4 HLd4 z0 z1 z2 H4 HTw HI hcv
          generalize hL' : l'.length = L' at *
          by_cases hE0 : EE = 0
          · have hE1 : ((EE : Int) == 0) = true := by simp [hE0]
            have HN := Lib.hid (HN2.out hE0)
            clear HN1 HN2 hE0
            go_wp2_with (first
              | (refine wpList_store_at rfl 33 _ _ rfl _ _ rfl rfl HS4.out ?_)
              | (refine wpList_load_at rfl 33 _ rfl _ _ rfl HL4.out ?_)
              | (refine wpList_store_at rfl 33 _ _ rfl _ _ rfl rfl HS5.out ?_)
              | fail)
            go_roundw
            case rel => exact ⟨i + 1, true, D', _, a', c', rfl, by go_num, by omega, HN, HI5⟩
            case measure => simp [intOf]; omega
          · have hE1 : ((EE : Int) == 0) = false := by simpa using hE0
            obtain ⟨hZ1, hZ2⟩ := HEnd.out (i + 1) _ _ _ (by omega) (HN1.out hE0) hE0
            have HL5 := Lib.hid (load_rd HI5.out.dev rfl)
            obtain ⟨U6, hs6, hp6⟩ := put_rd (cs := #[.int .i64 r', .int .i64 s', .slice a' L' c', .bool cr', .bool ar', .int .i64 lf']) HI5.out.out rfl rfl (six_one _ _ _ _ _ _ _ _)
            have HS6 := Lib.hid hs6
            have HP6 := Lib.hid hp6
            have HF := Lib.hid (rcl_end (w := w) (a := ⟨ag, af, (n : Int)⟩) (row := row) (d := d) (E := EE) HI5.out.ls HI5.out.tie hZ1 hZ2 HI5.out.bw HI5.out.out (by omega) (by unfold rdC; dsimp only; rw [hL']; exact hp6))
            unfold rdC at HL5
            unfold rdV rdC at HF
            dsimp only at HL5 HF
            rw [hL'] at HL5 HF
            clear HN1 HN2 hE0 hZ1 hZ2 hs6 hp6
            go_wp2_with (first
              | (refine wpList_store_at rfl 33 _ _ rfl _ _ rfl rfl HS4.out ?_)
              | (refine wpList_load_at rfl 33 _ rfl _ _ rfl HL4.out ?_)
              | (refine wpList_store_at rfl 33 _ _ rfl _ _ rfl rfl HS5.out ?_)
              | (refine wpList_load_at rfl 33 _ rfl _ _ rfl HL5.out ?_)
              | (refine wpList_store_at rfl 33 _ _ rfl _ _ rfl rfl HS6.out ?_)
              | fail)
            exact bodyPost_ret (results_rd rfl _ _ (w.heap.size + 1 + 1) _ (.int .i64 (EE : Nat)) rfl rfl HP6.out.blk rfl) rfl HF.out
        · have hcp2 : ¬ 64 * (i : Int) < (L : Int) := by omega
          go_wp2_with (first
            | (refine wpList_load_at rfl 33 _ rfl _ _ rfl HLd.out ?_)
            | (go_at_call 29; refine HRd.out.mono ?_; rintro e w2 ⟨rfl, hb2⟩
               have HB2 := Lib.hid hb2
               clear hb2 HLd HRd y0 y1 y2)
            | (at_make; refine wpList_make_full _ rfl _ _ 53 rfl w2.heap.size 5 i0 (.int .u8 0) 1 Tryz.underlying53 hi0 hz0 hz1 .i64 .i64 _ _ 64 rfl rfl rfl rfl (by rw [hz2]; omega) (by unfold maxLen; omega) (Nat.le_refl _) ?_
               intro W3 hown3 hgrow3
               have hb3 := made_block hown3
               have hB3 := below_step HB2.out (below_grown_none hgrow3)
               obtain ⟨W4, hW4⟩ : ∃ W4, W4 = W3 := ⟨_, rfl⟩
               subst hW4
               have hb4 : W4.heap[w2.heap.size]? = some (.cells (vals PP).toArray 5 (0, 0)) := by rw [← hPP] at HPz ⊢; rw [HPz.out (by omega)]; exact hb3
               have hB4 := hB3
               have H4 := Lib.hid (And.intro hB4 (HI.out.on hB4))
               have hcv : (convert 53 9 (.slice (some ⟨w2.heap.size, 0, none⟩) 64 64)).run Tryz.prog W4 = .ok (.string (bs PP)) W4 := conv_ W4 _ 64 64 PP HPlen.out.symm (ct_bytes 5 hb4)
               have HLd4 := Lib.hid (GL.out W4 H4.out.1)
               have HW4 := Lib.hid (HWr.out W4 H4.out.1)
               obtain ⟨z0, z1, z2⟩ := ar_cells H4.out.2.ar
               dsimp only at z0 z1 z2
               clear hown3 hgrow3 hb3 hB3 hb4 hB4)
            | (refine wpList_load_at rfl 33 _ rfl _ _ rfl HLd4.out ?_)
            | fail)
          refine HW4.out.mono ?_
          rintro e U2 ⟨⟨a', c', rfl, hL2⟩, hb2⟩
          have hT2 := HTw.out
          obtain ⟨r', s', l', cr', ar', lf'⟩ := X'
          dsimp only at hT2 hL2 ⊢
          obtain ⟨U4, hs4, hp4⟩ := put_rd (cs := #[.int .i64 r', .int .i64 s', .slice a' l'.length c', .bool cr', .bool ar', .int .i64 lf']) (alloc_at U2 (.cells #[.int .i64 0, .int .i64 0, .slice none 0 0, .bool false, .bool false, .int .i64 0] 33)) rfl rfl (six_one _ _ _ _ _ _ _ _)
          have hdev4 : U4.heap[w.heap.size]? = some (.cells (rdC ⟨r, s9, l, cr, ar, lf⟩ al l.length cl) 33 (0, 0)) := by
            have hi := H4.out.2.on hb2
            rw [hp4.far _ (by have := blk_lt hi.out; omega)]; exact alloc_old hi.dev
          obtain ⟨U5, hs5, hp5⟩ := put_rd (cs := #[.int .i64 r', .int .i64 s', .slice a' l'.length c', .bool cr', .bool ar', .int .i64 lf']) hdev4 rfl rfl (six_one _ _ _ _ _ _ _ _)
          have HI5 : Hid (RcI w ⟨ag, af, (n : Int)⟩ U5 D' ⟨r', s', l', cr', ar', lf'⟩ a' c') := H4.out.2.wrote hb2 hT2 hL2 HRs.out HLf.out hp4 hp5
          have HL4 := Lib.hid (load_rd hp4.blk rfl)
          have HS4 := Lib.hid hs4
          have HS5 := Lib.hid hs5
          clear hT2 hL2 hb2 hs4 hp4 hdev4 hs5 hp5 HW4 HLd4 z0 z1 z2 H4 HTw HI hcv
          generalize hL' : l'.length = L' at *
          by_cases hE0 : EE = 0
          · have hE1 : ((EE : Int) == 0) = true := by simp [hE0]
            have HN := Lib.hid (HN2.out hE0)
            clear HN1 HN2 hE0
            go_wp2_with (first
              | (refine wpList_store_at rfl 33 _ _ rfl _ _ rfl rfl HS4.out ?_)
              | (refine wpList_load_at rfl 33 _ rfl _ _ rfl HL4.out ?_)
              | (refine wpList_store_at rfl 33 _ _ rfl _ _ rfl rfl HS5.out ?_)
              | fail)
            go_roundw
            case rel => exact ⟨i + 1, true, D', _, a', c', rfl, by go_num, by omega, HN, HI5⟩
            case measure => simp [intOf]; omega
          · have hE1 : ((EE : Int) == 0) = false := by simpa using hE0
            obtain ⟨hZ1, hZ2⟩ := HEnd.out (i + 1) _ _ _ (by omega) (HN1.out hE0) hE0
            have HL5 := Lib.hid (load_rd HI5.out.dev rfl)
            obtain ⟨U6, hs6, hp6⟩ := put_rd (cs := #[.int .i64 r', .int .i64 s', .slice a' L' c', .bool cr', .bool ar', .int .i64 lf']) HI5.out.out rfl rfl (six_one _ _ _ _ _ _ _ _)
            have HS6 := Lib.hid hs6
            have HP6 := Lib.hid hp6
            have HF := Lib.hid (rcl_end (w := w) (a := ⟨ag, af, (n : Int)⟩) (row := row) (d := d) (E := EE) HI5.out.ls HI5.out.tie hZ1 hZ2 HI5.out.bw HI5.out.out (by omega) (by unfold rdC; dsimp only; rw [hL']; exact hp6))
            unfold rdC at HL5
            unfold rdV rdC at HF
            dsimp only at HL5 HF
            rw [hL'] at HL5 HF
            clear HN1 HN2 hE0 hZ1 hZ2 hs6 hp6
            go_wp2_with (first
              | (refine wpList_store_at rfl 33 _ _ rfl _ _ rfl rfl HS4.out ?_)
              | (refine wpList_load_at rfl 33 _ rfl _ _ rfl HL4.out ?_)
              | (refine wpList_store_at rfl 33 _ _ rfl _ _ rfl rfl HS5.out ?_)
              | (refine wpList_load_at rfl 33 _ rfl _ _ rfl HL5.out ?_)
              | (refine wpList_store_at rfl 33 _ _ rfl _ _ rfl rfl HS6.out ?_)
              | fail)
            exact bodyPost_ret (results_rd rfl _ _ (w.heap.size + 1 + 1) _ (.int .i64 (EE : Nat)) rfl rfl HP6.out.blk rfl) rfl HF.out
    · have hlt2 : ¬ (i : Int) < (n : Int) := by omega
      obtain rfl : i = n := by omega
      obtain ⟨hZ1, hZ2⟩ := HDn.out D b HC.out
      have HSy := Lib.hid (rsyncT x D ag HI.out.ls HI.out.tie (by rw [HI.out.rs.2]; omega) (by omega))
      have HTs := Lib.hid (tie_sync HI.out.tie ag)
      have HLd := Lib.hid (load_rd HI.out.dev rfl)
      generalize hXX : syncRD x D ag = X' at *
      clear hXX
      obtain ⟨r, s9, l, cr, ar, lf⟩ := x
      unfold rdC at HLd
      unfold rdV rdC at HSy
      dsimp only at HLd HSy
      generalize hLq : l.length = L1 at *
      cases b
      · simp only [Bool.false_eq_true, if_false] at hZ1 hZ2
        obtain ⟨U6, hs6, hp6⟩ := put_rd (cs := #[.int .i64 r, .int .i64 s9, .slice al L1 cl, .bool cr, .bool ar, .int .i64 lf]) HI.out.out rfl rfl (six_one _ _ _ _ _ _ _ _)
        have HS6 := Lib.hid hs6
        have HP6 := Lib.hid hp6
        have HF := Lib.hid (rcl_end (w := w) (a := ⟨ag, af, (i : Int)⟩) (row := row) (d := d) (E := 0) HI.out.ls HI.out.tie hZ1 hZ2 HI.out.bw HI.out.out (by omega) (by unfold rdC; dsimp only; rw [hLq]; exact hp6))
        unfold rdV rdC at HF
        dsimp only at HF
        rw [hLq] at HF
        clear HSy HTs hZ1 hZ2 hs6 hp6
        go_wp2_with (first
          | (refine wpList_load_at rfl 33 _ rfl _ _ rfl HLd.out ?_)
          | (refine wpList_store_at rfl 33 _ _ rfl _ _ rfl rfl HS6.out ?_)
          | fail)
        exact bodyPost_ret (results_rd rfl _ _ (w.heap.size + 1 + 1) _ (.int .i64 0) rfl rfl HP6.out.blk rfl) rfl HF.out
      · simp only [if_true] at hZ1 hZ2
        go_wp2_with (first
          | (refine wpList_load_at rfl 33 _ rfl _ _ rfl HLd.out ?_)
          | fail)
        refine HSy.out.mono ?_
        rintro e U2 ⟨⟨a', c', rfl, hL2⟩, hb2⟩
        have hT2 := HTs.out
        obtain ⟨r', s', l', cr', ar', lf'⟩ := X'
        dsimp only at hT2 hL2 ⊢
        have hi2 := HI.out.on hb2
        obtain ⟨U6, hs6, hp6⟩ := put_rd (cs := #[.int .i64 r', .int .i64 s', .slice a' l'.length c', .bool cr', .bool ar', .int .i64 lf']) hi2.out rfl rfl (six_one _ _ _ _ _ _ _ _)
        have HS6 := Lib.hid hs6
        have HP6 := Lib.hid hp6
        have HF := Lib.hid (rcl_end (w := w) (a := ⟨ag, af, (i : Int)⟩) (row := row) (d := d) (E := sErr D ag) (x := ⟨r', s', l', cr', ar', lf'⟩) hL2 hT2 hZ1 hZ2 hi2.bw hi2.out (by omega) hp6)
        unfold rdV rdC at HF
        dsimp only at HF
        clear HSy HTs hZ1 hZ2 hs6 hp6 hT2 hL2 hb2 hi2 HI HLd y0 y1 y2
        generalize sErr D ag = EE at *
        generalize l'.length = L' at *
        go_wp2_with (first
          | (refine wpList_store_at rfl 33 _ _ rfl _ _ rfl rfl HS6.out ?_)
          | fail)
        exact bodyPost_ret (results_rd rfl _ _ (w.heap.size + 1 + 1) _ (.int .i64 (EE : Nat)) rfl rfl HP6.out.blk rfl) rfl HF.out
end Go.Proofs.YtjnhcanohefjiaaGreatDoor
