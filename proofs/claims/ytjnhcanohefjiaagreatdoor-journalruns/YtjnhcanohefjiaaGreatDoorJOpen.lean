/- journal.Open. -/
import Derived.Test.YtjnhcanohefjiaaGreatDoorJJB
import Derived.Test.YtjnhcanohefjiaaGreatDoorJScan
namespace Go.Proofs.YtjnhcanohefjiaaGreatDoor
open Go.RowKit Go.Sort Go.Maps

/-- A struct in a new block. -/
theorem run_box (w : World) (t : TypeId) (cs : Array Value) (a : Act) (o : Oper) (x : Operand) (h : o.op = .box t x) (hx : a.eval x = .agg cs) : (execOp a.eval o).run Tryz.prog w = .ok (.value (.pointer (some ⟨w.heap.size, 0, none⟩))) (w.alloc (.cells cs t)) := by
  unfold execOp
  simp only [h, hx]
  simp [Instr.box, newVar, newObj, go_sem, Value.cells]
  rfl
set_option maxHeartbeats 1000000 in
theorem jopen_out {w : World} {p aa bb : Nat} {d : Dev} {K : Nat} (h : DevIn w p aa bb d K) (a : Ar) (hr : inR a) (ep : Nat) (hin : ¬ inJ d a) :
    Calls Tryz.prog 7 #[.pointer (some ⟨p, 0, none⟩), arV a, .int .u64 ep] w fun e w' => e = .returned (.tuple #[.pointer none, .slice none 0 0, errV 1]) ∧ Below w.heap.size w w' := by
  have hb0 := arW'_below w a
  have hat := arW'_at w a
  have HI := Lib.hid (isIn_ (h.on hb0) a hr)
  rw [decide_eq_false hin] at HI
  unfold arW' at hb0 hat HI
  unfold arV at HI ⊢
  obtain ⟨x0, x1, x2⟩ := hat.cells
  obtain ⟨g, f, s⟩ := a
  simp only at *
  have HB0 := Lib.hid hb0
  have e1 : errV 1 = .iface 68 (.int .i64 1) := rfl
  rw [e1]
  clear h hin hb0 hat hr
  go_enter Tryz.func7, Tryz.ntmps7
  go_wp2_with (first
    | (go_at_call 23; refine HI.out.mono ?_; rintro e w1 ⟨rfl, hb1⟩
       have HB1 := Lib.hid (below_step HB0.out hb1)
       clear hb1)
    | fail)
  go_ret3
  exact ⟨rfl, HB1.out⟩
/-- Slices of bytes, none of them among the blocks M. -/
def ListF (w : World) (M : Nat → Prop) (la : Option Addr) (yss : List (List Nat)) : Prop :=
  ∀ i, i < yss.length → ∃ b o, la = some ⟨b, o, none⟩ ∧ b < w.heap.size ∧ ¬ M b ∧ ∃ a c, w.cell? ⟨b, o + i, none⟩ = some (.slice a (yss.getD i []).length c) ∧ BytesIn w a (yss.getD i []) ∧ (yss.getD i [] ≠ [] → ∃ g o', a = some ⟨g, o', none⟩ ∧ g < w.heap.size ∧ ¬ M g)
theorem ListF.list {w : World} {M : Nat → Prop} {la : Option Addr} {yss : List (List Nat)} (h : ListF w M la yss) : ListIn w la yss := fun i hi => by
  obtain ⟨b, o, h1, _, _, a, c, h2, h3, _⟩ := h i hi
  exact ⟨b, o, h1, a, c, h2, h3⟩
theorem bytes_block {w w' : World} {g o : Nat} {xs : List Nat} (h : BytesIn w (some ⟨g, o, none⟩) xs) (e : w'.heap[g]? = w.heap[g]?) : BytesIn w' (some ⟨g, o, none⟩) xs := fun i hi => by
  obtain ⟨b, o', h1, h2⟩ := h i hi
  cases h1
  refine ⟨g, o, rfl, ?_⟩
  rw [← h2]
  simp [World.cell?, e]
theorem ListF.ext {w w' : World} {M M' : Nat → Prop} {la : Option Addr} {yss : List (List Nat)} (h : ListF w M la yss) (he : Ext M M' w w') : ListF w' M' la yss := fun i hi => by
  obtain ⟨b, o, h1, h2, h3, a, c, h4, h5, h6⟩ := h i hi
  have far : ∀ k, k < w.heap.size → ¬ M k → k < w'.heap.size ∧ ¬ M' k := fun k hk hn => ⟨Nat.lt_of_lt_of_le hk he.size, fun q => by rcases he.new k q with q | q; exact hn q; omega⟩
  refine ⟨b, o, h1, (far b h2 h3).1, (far b h2 h3).2, a, c, ?_, ?_, fun hne => ?_⟩
  · rw [← h4]
    have := he.block b h2 h3
    simp [World.cell?, this]
  · by_cases hne : yss.getD i [] = []
    · rw [hne]; exact bytesIn_nil _ _
    · obtain ⟨g, o', e1, e2, e3⟩ := h6 hne
      subst e1
      exact bytes_block h5 (he.block g e2 e3)
  · obtain ⟨g, o', e1, e2, e3⟩ := h6 hne
    exact ⟨g, o', e1, far g e2 e3⟩
/-- A cell of a slice, or of a byte, is none of a device's. -/
theorem DevIn.cell_other {w : World} {p aa bb : Nat} {d : Dev} {K : Nat} (h : DevIn w p aa bb d K) {b o : Nat} {v : Value} (hc : w.cell? ⟨b, o, none⟩ = some v) (hv : (∃ a n c, v = .slice a n c) ∨ ∃ x, v = .int .u8 x) : b ≠ p ∧ b ≠ aa ∧ b ≠ bb := by
  refine ⟨fun e => ?_, fun e => ?_, fun e => ?_⟩
  · subst e
    have hb := h.blk
    have hq : (devC d aa bb)[o]? = some v := by
      simp only [World.cell?, hb] at hc
      simpa using hc
    have hm : v ∈ (devC d aa bb).toList := by
      have := Array.mem_of_getElem? hq
      simpa using this
    simp only [devC, List.mem_cons, List.not_mem_nil, or_false] at hm
    rcases hv with ⟨a, n, c, rfl⟩ | ⟨x, rfl⟩ <;> simp at hm
  · obtain ⟨es, cl, h1⟩ := h.mapA
    rw [← e] at h1
    simp [World.cell?, h1] at hc
  · obtain ⟨es, cl, h1⟩ := h.mapB
    rw [← e] at h1
    simp [World.cell?, h1] at hc
/-- What lay there ahead of the journal is none of its own. -/
theorem ListIn.free {w : World} {p aa bb : Nat} {d : Dev} {K : Nat} {la : Option Addr} {yss : List (List Nat)} {M : Nat → Prop} (h : ListIn w la yss) (hd : DevIn w p aa bb d K) (hM : ∀ k, M k → k = p ∨ k = aa ∨ k = bb ∨ w.heap.size ≤ k) : ListF w M la yss := fun i hi => by
  obtain ⟨b, o, h1, a, c, h2, h3⟩ := h i hi
  have hb := hd.cell_other h2 (.inl ⟨_, _, _, rfl⟩)
  have hl := block_lt_of_cell h2
  refine ⟨b, o, h1, hl, fun q => ?_, a, c, h2, h3, fun hne => ?_⟩
  · rcases hM b q with e | e | e | e
    · exact hb.1 e
    · exact hb.2.1 e
    · exact hb.2.2 e
    · exact absurd hl (Nat.not_lt.2 e)
  · have hp : 0 < (yss.getD i []).length := List.length_pos_iff.2 hne
    obtain ⟨g, o', e1, e2⟩ := h3 0 hp
    have hg := hd.cell_other e2 (.inr ⟨_, rfl⟩)
    have hl2 := block_lt_of_cell e2
    refine ⟨g, o', e1, hl2, fun q => ?_⟩
    rcases hM g q with e | e | e | e
    · exact hg.1 e
    · exact hg.2.1 e
    · exact hg.2.2 e
    · exact absurd hl2 (Nat.not_lt.2 e)
/-- What Open hands back: the journal in a block of its own, the records' payloads. -/
def OpenTo (w : World) (base p aa bb : Nat) (d : Dev) (K : Nat) (J : Jr) (e : Ending) (w' : World) : Prop :=
  ∃ q rv ev la lc, e = .returned (.tuple #[.pointer (some ⟨q, 0, none⟩), .slice la J.pss.length lc, .nilIface]) ∧ Jn w' base p aa bb q d K J rv ev ∧ ListF w' (Mine p aa bb q rv ev) la J.pss ∧ J.pss.length ≤ lc ∧ Ext (fun k => k = p ∨ k = aa ∨ k = bb) (Mine p aa bb q rv ev) w w'
theorem OwnI.lower {w : World} {base base' : Nat} {v : Value} {xs : List Nat} (h : OwnI w base v xs) (hb : base' ≤ base) : OwnI w base' v xs := by
  refine ⟨h.1, ?_⟩
  rcases h.2 with h1 | ⟨g, cap, cur, e, h1, h2⟩
  · exact .inl h1
  · exact .inr ⟨g, cap, cur, e, Nat.le_trans hb h1, h2⟩
/-- The journal that Open has made, in its block. -/
theorem open_made {w V3 V4 V5 : World} {base p aa bb : Nat} {d : Dev} {K : Nat} {a : Ar} {ep : Nat} {rv ev : Value} (h : DevIn w p aa bb d K) (hlo : base ≤ p ∧ base ≤ aa ∧ base ≤ bb) (hbs : base ≤ w.heap.size) (hin : inJ d a) (he : ep < 18446744073709551616)
    (h3 : Below w.heap.size w V3) (h4 : Below V3.heap.size V3 V4) (h5 : Below V4.heap.size V4 V5) (hr : Own V4 V3.heap.size rv (openJ d a ep).row) (hev : OwnI V5 V4.heap.size ev (openJ d a ep).ends) :
    Jn (V5.alloc (.cells (jrC p (openJ d a ep) rv ev) 80)) base p aa bb V5.heap.size d K (openJ d a ep) rv ev ∧ Below V3.heap.size V3 (V5.alloc (.cells (jrC p (openJ d a ep) rv ev) 80)) ∧ ∀ k, Mine p aa bb V5.heap.size rv ev k → k = p ∨ k = aa ∨ k = bb ∨ V3.heap.size ≤ k := by
  have b6 := below_alloc V5 (.cells (jrC p (openJ d a ep) rv ev) 80)
  have b35 := below_step h4 h5
  have b36 := below_step b35 b6
  have s3 := h3.size
  have s4 := h4.size
  have s5 := h5.size
  refine ⟨⟨h.on (below_step h3 b36), ⟨World.alloc_heap_new' _ _, ?_, ?_, open_okJ h.ok hin h.lim he⟩, hlo.1, hlo.2.1, hlo.2.2, by omega⟩, b36, ?_⟩
  · exact (hr.lower (base' := base) (by omega)).on (below_step h5 b6)
  · exact (hev.on b6).lower (by omega)
  · rintro k (e | e | e | e | e | e)
    · exact .inl e
    · exact .inr (.inl e)
    · exact .inr (.inr (.inl e))
    · exact .inr (.inr (.inr (by omega)))
    · exact .inr (.inr (.inr (World.ownsRow.lt hr k e).1))
    · exact .inr (.inr (.inr (by have := (World.ownsRow.lt hev k e).1; omega)))
set_option maxRecDepth 100000 in
set_option maxHeartbeats 2000000 in
theorem jopen_ {w : World} {base p aa bb : Nat} {d : Dev} {K : Nat} (h : DevIn w p aa bb d K) (hlo : base ≤ p ∧ base ≤ aa ∧ base ≤ bb) (hbs : base ≤ w.heap.size) (a : Ar) (hr : inR a) (hin : inJ d a) (hc : d.crashed = false) (ep : Nat) (he : ep < 18446744073709551616) (hcl : cleanE a (openJ d a ep).row d = 0) (hK : K + a.s.toNat < 1000000) :
    Calls Tryz.prog 7 #[.pointer (some ⟨p, 0, none⟩), arV a, .int .u64 ep] w (OpenTo w base p aa bb (cleanD a (openJ d a ep).row d) (K + a.s.toNat) (openJ d a ep)) := by
  have hb0 := arW'_below w a
  have hat := arW'_at w a
  have HI := Lib.hid (isIn_ (h.on hb0) a hr)
  rw [decide_eq_true hin] at HI
  have HRd := Lib.hid (fun V (hV : Below w.heap.size w V) => jread_ (h.on hV) a hin hc)
  have hlen := held_len h.ok a
  have hbyte := held_byte h.ok a
  obtain ⟨s1, s2, s3, s4⟩ := scan_ok ep _ hbyte
  have hjr := open_okJ h.ok hin h.lim he
  have hrl := hjr.row_le
  have hcnt := hjr.count
  have hs16 : a.s.toNat ≤ 16384 := by have := hjr.s; show a.s.toNat ≤ 16384; have e : (openJ d a ep).a.s = a.s := rfl; omega
  have HSc : Hid (∀ V g c, BytesIn V (some ⟨g, 0, none⟩) (heldJ d a) → 64 * a.s.toNat ≤ c → Calls Tryz.prog 25 #[.int .u64 ep, .slice (some ⟨g, 0, none⟩) (64 * a.s.toNat) c] V fun e w' => ∃ la lc, e = .returned (.tuple #[.slice la (openJ d a ep).pss.length lc, .int .i64 ((scan ep (heldJ d a)).2 : Nat)]) ∧ ListIn w' la (openJ d a ep).pss ∧ (openJ d a ep).pss.length ≤ lc ∧ Below V.heap.size V w') := fun V g c hb hcap =>
    (scan_ ep (some ⟨g, 0, none⟩) (heldJ d a) (64 * a.s.toNat) c V hb hbyte (fun q => by cases q) hlen (by omega) hcap).mono fun e w' ⟨la, lc, q1, q2, q3, _, q4⟩ => ⟨la, lc, q1, q2, q3, q4⟩
  have hrow : (openJ d a ep).row.length = (scan ep (heldJ d a)).2 := s3.symm
  have HCl : Hid (∀ V g c, BytesIn V (some ⟨g, 0, none⟩) (heldJ d a) → Calls Tryz.prog 26 #[.slice (some ⟨g, 0, none⟩) (scan ep (heldJ d a)).2 c] V fun e w' => ∃ ra rl rc, e = .returned (.slice ra rl rc) ∧ Own w' V.heap.size (.slice ra rl rc) (openJ d a ep).row ∧ Below V.heap.size V w') := fun V g c hb => by
    have q := clone_ (some ⟨g, 0, none⟩) (openJ d a ep).row c V (by rw [open_row h.ok]; exact hb.take _) (fun q => by cases q) (by omega)
    rw [hrow] at q
    exact q.mono fun e w' ⟨ra, rc, q1, q2, _, _, q3⟩ => ⟨_, _, _, q1, q2, q3⟩
  have HEn : Hid (∀ V la lc, ListIn V la (openJ d a ep).pss → Calls Tryz.prog 27 #[.int .u64 ep, .slice la (openJ d a ep).pss.length lc] V fun e w' => ∃ ea el ec, e = .returned (.slice ea el ec) ∧ OwnI w' V.heap.size (.slice ea el ec) (openJ d a ep).ends ∧ Below V.heap.size V w') := fun V la lc hl => (endsOf_ ep la _ _ lc V hl rfl s4 he (by have := hrl; exact this) hcnt).mono fun e w' ⟨v, q1, q2, q3⟩ => by
    obtain ⟨ea, ec, hv, _⟩ := OwnI.shape q2
    subst hv
    exact ⟨_, _, _, q1, q2, q3⟩
  have HMk := Lib.hid (fun (V3 V4 V5 : World) (rv ev : Value) => open_made (V3 := V3) (V4 := V4) (V5 := V5) (rv := rv) (ev := ev) h hlo hbs hin he)
  have HCn : Hid (∀ V q rv ev, Jn V base p aa bb q d K (openJ d a ep) rv ev → Calls Tryz.prog 28 #[.pointer (some ⟨q, 0, none⟩)] V fun e w' => e = .returned .nilIface ∧ DevIn w' p aa bb (cleanD a (openJ d a ep).row d) (K + a.s.toNat) ∧ Fd p aa bb V w') := fun V q rv ev hV => by
    have q1 := jclean_ hV.jr hV.dev hc hin hK
    refine q1.mono fun e w' ⟨q1, q2, q3⟩ => ⟨?_, q2, q3⟩
    rw [q1, show cleanE (openJ d a ep).a (openJ d a ep).row d = 0 from hcl]
    rfl
  have HDv := Lib.hid h
  have hjC : ∀ rv ev, jrC p (openJ d a ep) rv ev = #[.pointer (some ⟨p, 0, none⟩), .int .i64 a.g, .int .i64 a.f, .int .i64 a.s, .int .u64 ep, rv, ev, .int .i64 ((openJ d a ep).pss.length : Nat), .nilIface] := fun rv ev => rfl
  simp only [hjC] at HMk
  have hszc : (scan ep (heldJ d a)).2 ≤ 64 * a.s.toNat := by rw [← hlen]; exact s2
  unfold arW' at hb0 hat HI
  unfold arV at HI HRd ⊢
  obtain ⟨x0, x1, x2⟩ := hat.cells
  have HB0 := Lib.hid hb0
  have HA := Lib.hid hat
  clear hb0 hat hin hr hc he hcl hlen hbyte s1 s2 s3 s4 hjr hrl hrow hlo hbs h hjC
  generalize (scan ep (heldJ d a)).2 = sz at *
  generalize cleanD a (openJ d a ep).row d = cD at *
  generalize hm : (openJ d a ep).pss.length = m at *
  generalize heldJ d a = xs at *
  generalize hn : a.s.toNat = n at *
  obtain ⟨g, f, s⟩ := a
  simp only at *
  go_enter Tryz.func7, Tryz.ntmps7
  go_wp2_with (first
    | (go_at_call 23; refine HI.out.mono ?_; rintro e w1 ⟨rfl, hb1⟩
       have HB1 := Lib.hid (below_step HB0.out hb1)
       have HA1 := Lib.hid (HA.out.on hb1)
       obtain ⟨y0, y1, y2⟩ := HA1.out.cells
       clear hb1 x0 x1 x2)
    | (go_at_call 24; refine (HRd.out _ HB1.out).mono ?_; rintro e w2 ⟨g2, c2, rfl, hby2, hcap2, hb2⟩
       have HB2 := Lib.hid (below_step HB1.out hb2)
       have HA2 := Lib.hid (HA1.out.on hb2)
       have HY2 := Lib.hid hby2
       clear hb2 hby2 y0 y1 y2)
    | (go_at_call 25; refine (HSc.out _ _ _ HY2.out hcap2).mono ?_; rintro e w3 ⟨la, lc, rfl, hli3, hlc3, hb3⟩
       have HB3 := Lib.hid (below_step HB2.out hb3)
       have HA3 := Lib.hid (HA2.out.on hb3)
       have HY3 := Lib.hid (HY2.out.on hb3)
       have HL3 := Lib.hid hli3
       clear hb3 hli3)
    | fail)
  have A0 : Hid (∀ V, Below w3.heap.size w3 V → V.cell? ⟨w.heap.size, 0, none⟩ = some (.int .i64 g)) := fun V hV => (HA3.out.on hV).cells.1
  have A1 : Hid (∀ V, Below w3.heap.size w3 V → V.cell? ⟨w.heap.size, 1, none⟩ = some (.int .i64 f)) := fun V hV => (HA3.out.on hV).cells.2.1
  have A2 : Hid (∀ V, Below w3.heap.size w3 V → V.cell? ⟨w.heap.size, 2, none⟩ = some (.int .i64 s)) := fun V hV => (HA3.out.on hV).cells.2.2
  have z0 : (0 : Int) ≤ (sz : Int) := by omega
  have z1 : (sz : Int) ≤ (c2 : Int) := by omega
  refine wp_region_noPanic ?_
  refine wp_region_held_drew (S := fun V => Below w3.heap.size w3 V) (by kernel_rfl) (below_drew _) (fun hHeld => ?_)
  refine take_at 0 (.pointer (some ⟨p, 0, none⟩)) rfl (by kernel_rfl) (by kernel_rfl) (by kernel_rfl) (fun _ _ _ h => h) (Or.inl ⟨by rfl, ?_⟩) (by assumption) ?_
  · intro V hSV; go_simp
  simp only [Act.put, List.setIfInBounds_toArray, List.set_cons_zero, List.set_cons_succ]
  refine take_at 1 (.agg #[.int .i64 g, .int .i64 f, .int .i64 s]) rfl (by kernel_rfl) (by kernel_rfl) (by kernel_rfl) (fun _ _ _ h => h) (Or.inl ⟨by rfl, ?_⟩) (by assumption) ?_
  · intro V hSV; have e0 := A0.out V hSV; have e1 := A1.out V hSV; have e2 := A2.out V hSV; go_simp
  simp only [Act.put, List.setIfInBounds_toArray, List.set_cons_zero, List.set_cons_succ]
  refine take_at 2 (.int .u64 ep) rfl (by kernel_rfl) (by kernel_rfl) (by kernel_rfl) (fun _ _ _ h => h) (Or.inl ⟨by rfl, ?_⟩) (by assumption) ?_
  · intro V hSV; go_simp
  simp only [Act.put, List.setIfInBounds_toArray, List.set_cons_zero, List.set_cons_succ]
  refine take_at 3 (.slice (some ⟨g2, 0, none⟩) (64 * n) c2) rfl (by kernel_rfl) (by kernel_rfl) (by kernel_rfl) (fun _ _ _ h => h) (Or.inl ⟨by rfl, ?_⟩) (by assumption) ?_
  · intro V hSV; go_simp
  simp only [Act.put, List.setIfInBounds_toArray, List.set_cons_zero, List.set_cons_succ]
  refine take_at 4 (.int .i64 sz) rfl (by kernel_rfl) (by kernel_rfl) (by kernel_rfl) (fun _ _ _ h => h) (Or.inl ⟨by rfl, ?_⟩) (by assumption) ?_
  · intro V hSV; go_simp
  simp only [Act.put, List.setIfInBounds_toArray, List.set_cons_zero, List.set_cons_succ]
  refine take_at 5 (.slice (some ⟨g2, 0, none⟩) sz c2) rfl (by kernel_rfl) (by kernel_rfl) (by kernel_rfl) (fun _ _ _ h => h) (Or.inl ⟨by rfl, ?_⟩) (by assumption) ?_
  · intro V hSV; go_simp
  simp only [Act.put, List.setIfInBounds_toArray, List.set_cons_zero, List.set_cons_succ]
  refine take_at 7 (.int .u64 ep) rfl (by kernel_rfl) (by kernel_rfl) (by kernel_rfl) (fun _ _ _ h => h) (Or.inl ⟨by rfl, ?_⟩) (by assumption) ?_
  · intro V hSV; go_simp
  simp only [Act.put, List.setIfInBounds_toArray, List.set_cons_zero, List.set_cons_succ]
  refine take_at 8 (.slice la m lc) rfl (by kernel_rfl) (by kernel_rfl) (by kernel_rfl) (fun _ _ _ h => h) (Or.inl ⟨by rfl, ?_⟩) (by assumption) ?_
  · intro V hSV; go_simp
  simp only [Act.put, List.setIfInBounds_toArray, List.set_cons_zero, List.set_cons_succ]
  refine take_at 10 (.slice la m lc) rfl (by kernel_rfl) (by kernel_rfl) (by kernel_rfl) (fun _ _ _ h => h) (Or.inl ⟨by rfl, ?_⟩) (by assumption) ?_
  · intro V hSV; go_simp
  simp only [Act.put, List.setIfInBounds_toArray, List.set_cons_zero, List.set_cons_succ]
  refine take_at 11 (.int .i64 m) rfl (by kernel_rfl) (by kernel_rfl) (by kernel_rfl) (fun _ _ _ h => h) (Or.inl ⟨by rfl, ?_⟩) (by assumption) ?_
  · intro V hSV; go_simp
  simp only [Act.put, List.setIfInBounds_toArray, List.set_cons_zero, List.set_cons_succ]
  refine wpAnyH_ready (rs := [6]) (by kernel_rfl) (by simp) ?_
  refine AllReadyH.cons rfl (fun KK hK => ?_) AllReadyH.nil
  go_simp
  go_wp2_with (first | (go_at_call 26; refine (HCl.out _ _ _ (HY3.out.on (below_drew _))).mono ?_; rintro e V4 ⟨ra, rl, rc, rfl, hrv, hb4⟩))
  refine hK.out _ _ ?_ (fun hHeld6 => ?_)
  · exact below_step (below_drew _) hb4
  clear hK KK
  have hB4 := below_step (below_drew w3) hb4
  have HRv := Lib.hid hrv
  clear hrv
  refine wpAnyH_ready (rs := [9]) (by kernel_rfl) (by simp) ?_
  refine AllReadyH.cons rfl (fun KK hK => ?_) AllReadyH.nil
  go_simp
  go_wp2_with (first | (go_at_call 27; refine (HEn.out _ _ _ (HL3.out.on hB4)).mono ?_; rintro e V5 ⟨ea, el, ec, rfl, hev, hb5⟩))
  refine hK.out _ _ ?_ (fun hHeld9 => ?_)
  · exact below_step hB4 hb5
  clear hK KK
  have hB5 := below_step hB4 hb5
  have HEv := Lib.hid hev
  clear hev
  refine take_at 12 (.agg #[.pointer (some ⟨p, 0, none⟩), .int .i64 g, .int .i64 f, .int .i64 s, .int .u64 ep, .slice ra rl rc, .slice ea el ec, .int .i64 m, .nilIface]) rfl (by kernel_rfl) (by kernel_rfl) (by kernel_rfl) (fun _ _ _ h => h) (Or.inl ⟨by rfl, ?_⟩) (by assumption) ?_
  · intro V hSV; go_simp
  simp only [Act.put, List.setIfInBounds_toArray, List.set_cons_zero, List.set_cons_succ]
  refine ready_at 13 rfl (by kernel_rfl) (by rfl) (Or.inl (run_box _ _ _ _ _ _ rfl rfl)) (below_step hB5 (below_alloc _ _)) ?_
  simp only [Act.put, List.setIfInBounds_toArray, List.set_cons_zero, List.set_cons_succ]
  have hHeld13 : Below w3.heap.size w3 (V5.alloc (.cells #[.pointer (some ⟨p, 0, none⟩), .int .i64 g, .int .i64 f, .int .i64 s, .int .u64 ep, .slice ra rl rc, .slice ea el ec, .int .i64 m, .nilIface] 80)) := below_step hB5 (below_alloc _ _)
  have HJ := Lib.hid (HMk.out w3.drew V4 V5 (.slice ra rl rc) (.slice ea el ec) (below_step HB3.out (below_drew w3)) hb4 hb5 HRv.out HEv.out)
  clear hb4 hb5 hB4 hB5 hHeld hHeld6 hHeld9 HRv HEv HMk HCl HEn
  generalize V5.alloc (.cells #[.pointer (some ⟨p, 0, none⟩), .int .i64 g, .int .i64 f, .int .i64 s, .int .u64 ep, .slice ra rl rc, .slice ea el ec, .int .i64 m, .nilIface] 80) = W6 at *
  generalize V5.heap.size = q at *
  refine take_at 14 (.pointer (some ⟨q, 0, none⟩)) rfl (by kernel_rfl) (by kernel_rfl) (by kernel_rfl) (fun _ _ _ h => h) (Or.inl ⟨by rfl, ?_⟩) (by assumption) ?_
  · intro V hSV; go_simp
  simp only [Act.put, List.setIfInBounds_toArray, List.set_cons_zero, List.set_cons_succ]
  refine wpAnyH_done (by kernel_rfl) ?_ _
  refine NoPanic.normal ?_
  have HB6 := Lib.hid (below_step HB3.out hHeld13)
  have HL6 : Hid (ListF W6 (Mine p aa bb q (.slice ra rl rc) (.slice ea el ec)) la (openJ d ⟨g, f, s⟩ ep).pss) := by
    have q1 := HL3.out.free (HDv.out.on HB3.out) (M := Mine p aa bb q (.slice ra rl rc) (.slice ea el ec)) HJ.out.2.2
    exact q1.ext (Ext.of_below _ hHeld13)
  clear hHeld13 A0 A1 A2 HA3 HY3 HL3 HI HRd HSc HA1 HA2 HY2
  go_wp2_with (first
    | (go_at_call 28; refine (HCn.out _ _ _ _ HJ.out.1).mono ?_; rintro e w7 ⟨rfl, hd7, hf7⟩
       have HJ7 : Hid (Jn w7 base p aa bb q cD (K + n) (openJ d ⟨g, f, s⟩ ep) (.slice ra rl rc) (.slice ea el ec)) := HJ.out.1.fd hd7 hf7
       have HF7 := Lib.hid hf7
       clear hd7 hf7)
    | fail)
  go_ret3
  refine ⟨q, _, _, la, lc, by rw [hm]; rfl, HJ7.out, HL6.out.ext (Ext.of_fd q _ _ HF7.out), by rw [hm]; exact hlc3, ?_⟩
  have hs3 := HB3.out.size
  refine ⟨HF7.out.os.trans HB6.out.os, HF7.out.tape.trans HB6.out.tape, HF7.out.output.trans HB6.out.output, Nat.le_trans HB6.out.size HF7.out.size, fun k hk hn => ?_, fun k hk => ?_⟩
  · rw [HF7.out.block k (Nat.lt_of_lt_of_le hk HB6.out.size) (fun e => hn (.inl e)) (fun e => hn (.inr (.inl e))) (fun e => hn (.inr (.inr e))), HB6.out.block k hk]
  · rcases HJ.out.2.2 k hk with e | e | e | e
    · exact .inl (.inl e)
    · exact .inl (.inr (.inl e))
    · exact .inl (.inr (.inr e))
    · exact .inr (Nat.le_trans hs3 e)
end Go.Proofs.YtjnhcanohefjiaaGreatDoor
