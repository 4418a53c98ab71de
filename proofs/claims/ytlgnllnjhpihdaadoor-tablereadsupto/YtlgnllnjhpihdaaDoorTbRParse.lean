/- The walk of the document's Parse. -/
import Derived.Test.YtlgnllnjhpihdaaDoorTbRCut
import Derived.Test.YtlgnllnjhpihdaaDoorTbRText
import Derived.Test.YtlgnllnjhpihdaaDoorTbLaw
namespace Go.Proofs.YtlgnllnjhpihdaaDoor
open Go.RowKit Go.Sort

/-- A column's block that may be written. -/
def CoB (V : World) (B : Nat) (nm : ByteArray) (k : Int) (y nl : Bool) : Prop :=
  (V.cell? ⟨B, 0, none⟩ = some (.string nm) ∧ V.cell? ⟨B, 1, none⟩ = some (.int .i64 k) ∧ V.cell? ⟨B, 2, none⟩ = some (.bool y) ∧ V.cell? ⟨B, 3, none⟩ = some (.bool nl)) ∧ (V.frozen? ⟨B, 0, none⟩ = false ∧ V.frozen? ⟨B, 1, none⟩ = false ∧ V.frozen? ⟨B, 2, none⟩ = false ∧ V.frozen? ⟨B, 3, none⟩ = false)
theorem coB_new (w : World) (c : Col) (ty : TypeId) : CoB (w.alloc (.cells #[.string c.nm, .int .i64 c.k, .bool c.key, .bool c.nul] ty)) w.heap.size c.nm c.k c.key c.nul := by
  refine ⟨⟨?_, ?_, ?_, ?_⟩, ?_, ?_, ?_, ?_⟩ <;> simp [go_sem]
theorem CoB.lt {V : World} {B : Nat} {nm : ByteArray} {k : Int} {y nl : Bool} (h : CoB V B nm k y nl) : B < V.heap.size := block_lt_of_cell h.1.1
theorem CoB.on {V V' : World} {B : Nat} {nm : ByteArray} {k : Int} {y nl : Bool} (h : CoB V B nm k y nl) (hb : Below V.heap.size V V') : CoB V' B nm k y nl := by
  have hl := h.lt
  obtain ⟨⟨h0, h1, h2, h3⟩, f0, f1, f2, f3⟩ := h
  exact ⟨⟨(hb.cell hl).trans h0, (hb.cell hl).trans h1, (hb.cell hl).trans h2, (hb.cell hl).trans h3⟩, Frz.on f0 hl hb, Frz.on f1 hl hb, Frz.on f2 hl hb, Frz.on f3 hl hb⟩
theorem CoB.set0 {V : World} {B : Nat} {nm : ByteArray} {k : Int} {y nl : Bool} (h : CoB V B nm k y nl) (x : ByteArray) : CoB (V.setCell ⟨B, 0, none⟩ (.string x)) B x k y nl := by
  obtain ⟨⟨h0, h1, h2, h3⟩, f0, f1, f2, f3⟩ := h
  refine ⟨⟨?_, ?_, ?_, ?_⟩, ?_, ?_, ?_, ?_⟩ <;> simp [go_sem, h0, h1, h2, h3, f0, f1, f2, f3]
theorem CoB.set1 {V : World} {B : Nat} {nm : ByteArray} {k : Int} {y nl : Bool} (h : CoB V B nm k y nl) (x : Int) : CoB (V.setCell ⟨B, 1, none⟩ (.int .i64 x)) B nm x y nl := by
  obtain ⟨⟨h0, h1, h2, h3⟩, f0, f1, f2, f3⟩ := h
  refine ⟨⟨?_, ?_, ?_, ?_⟩, ?_, ?_, ?_, ?_⟩ <;> simp [go_sem, h0, h1, h2, h3, f0, f1, f2, f3]
theorem CoB.set2 {V : World} {B : Nat} {nm : ByteArray} {k : Int} {y nl : Bool} (h : CoB V B nm k y nl) (x : Bool) : CoB (V.setCell ⟨B, 2, none⟩ (.bool x)) B nm k x nl := by
  obtain ⟨⟨h0, h1, h2, h3⟩, f0, f1, f2, f3⟩ := h
  refine ⟨⟨?_, ?_, ?_, ?_⟩, ?_, ?_, ?_, ?_⟩ <;> simp [go_sem, h0, h1, h2, h3, f0, f1, f2, f3]
theorem CoB.set3 {V : World} {B : Nat} {nm : ByteArray} {k : Int} {y nl : Bool} (h : CoB V B nm k y nl) (x : Bool) : CoB (V.setCell ⟨B, 3, none⟩ (.bool x)) B nm k y x := by
  obtain ⟨⟨h0, h1, h2, h3⟩, f0, f1, f2, f3⟩ := h
  refine ⟨⟨?_, ?_, ?_, ?_⟩, ?_, ?_, ?_, ?_⟩ <;> simp [go_sem, h0, h1, h2, h3, f0, f1, f2, f3]
/-- All that is kept in a round: the result's block, the table's, the row of columns. -/
structure Rk (w : World) (B9 N : Nat) (nm : ByteArray) (a : Option Addr) (n c : Nat) (cs : List Col) (wr : World) : Prop where
  b2 : TbB wr w.heap.size ⟨#[]⟩ (.slice none 0 0)
  b9 : TbB wr B9 nm (.slice a n c)
  row : OwnC wr N (.slice a n c) cs
  bw : Below w.heap.size w wr
  sz : N ≤ wr.heap.size
theorem Rk.on {w wr w' : World} {B9 N : Nat} {nm : ByteArray} {a : Option Addr} {n c : Nat} {cs : List Col} (h : Rk w B9 N nm a n c cs wr) (hb : Below wr.heap.size wr w') : Rk w B9 N nm a n c cs w' :=
  ⟨h.b2.on hb, h.b9.on hb, h.row.on hb, below_step h.bw hb, Nat.le_trans h.sz hb.size⟩
theorem Rk.set {w wr : World} {B9 N B o : Nat} {u : Value} {nm : ByteArray} {a : Option Addr} {n c : Nat} {cs : List Col} (h : Rk w B9 N nm a n c cs wr) (h2 : w.heap.size < B) (h9 : B9 < B) (hr : ∀ b o', a = some ⟨b, o', none⟩ → b < B) : Rk w B9 N nm a n c cs (wr.setCell ⟨B, o, none⟩ u) := by
  refine ⟨h.b2.other (Nat.ne_of_lt h2), h.b9.other (Nat.ne_of_lt h9), ⟨h.row.1, ?_⟩, h.bw.setCell (Nat.le_of_lt h2) _, ?_⟩
  · rcases h.row.2 with h1 | ⟨g, cap, cur, e, h1, hh, h3, h4, h5, h6⟩
    · exact .inl h1
    · have hg : g < B := by
        simp only [Value.slice.injEq] at e
        exact hr g 0 e.1
      exact .inr ⟨g, cap, cur, e, h1, (Below.heap_setCell wr ⟨B, o, none⟩ u g (Nat.ne_of_lt hg)).trans hh, h3, h4, h5, h6⟩
  · have hb : Below 0 wr (wr.setCell ⟨B, o, none⟩ u) := ((Below.refl _ _).setCell (Nat.zero_le _) _)
    exact Nat.le_trans h.sz hb.size
theorem Rk.lt {w wr : World} {B9 N : Nat} {nm : ByteArray} {a : Option Addr} {n c : Nat} {cs : List Col} (h : Rk w B9 N nm a n c cs wr) : ∀ b o', a = some ⟨b, o', none⟩ → b < wr.heap.size := fun b o' e => (World.ownsRow.lt h.row b (by rw [e]; rfl)).2
/-- A column more, at the table's block. -/
theorem Rk.more {w U : World} {B9 N Bs : Nat} {nm : ByteArray} {a : Option Addr} {n c : Nat} {cs : List Col} {x : Col} (h : Rk w B9 N nm a n c cs U) (h2 : w.heap.size < B9) (h9 : B9 < N) (hin : InC U Bs 0 x) (hml : (cs.length + 1) * 32 ≤ 140737488355328) :
    ∃ a3 n3 c3 V3, (Builtin.append_ #[22, 22] 22 #[.slice a n c, .slice (some ⟨Bs, 0, none⟩) 1 1]).run Tryd.prog U = .ok (.slice a3 n3 c3) V3 ∧ TbB V3 B9 nm (.slice a n c) ∧ Rk w B9 N nm a3 n3 c3 (cs ++ [x]) (V3.setCell ⟨B9, 1, none⟩ (.slice a3 n3 c3)) := by
  obtain ⟨a3, n3, c3, V3, hap, ho3, hgr⟩ := app_col h.row 22 hin hml h.sz
  have hown : ∀ k, (Value.slice a n c).ownBlock = some k → N ≤ k := fun k hk => (World.ownsRow.lt h.row k hk).1
  have hb9 := h.b9.grown hgr (fun k hk => Nat.lt_of_lt_of_le h9 (hown k hk))
  have hb2 := h.b2.grown hgr (fun k hk => by have := hown k hk; omega)
  have hbw : Below w.heap.size w V3 := h.bw.grown hgr (by have := h.sz; omega) (fun k hk => by have := hown k hk; omega)
  have hsz : Below N U V3 := (Below.refl _ _).grown hgr h.sz hown
  refine ⟨a3, n3, c3, V3, hap, hb9, hb2.other (Nat.ne_of_lt h2), tbB_set hb9 _, ho3.set h9, hbw.setCell (Nat.le_of_lt h2) _, ?_⟩
  have hb : Below 0 V3 (V3.setCell ⟨B9, 1, none⟩ (.slice a3 n3 c3)) := ((Below.refl _ _).setCell (Nat.zero_le _) _)
  exact Nat.le_trans (Nat.le_trans h.sz hsz.size) hb.size
theorem splitK_step {R : List UInt8} {k : Nat} (h : (Lib.cut R [44, 32]).2.2 = true) (hk : R.length ≤ k) : ∃ k2, Lib.splitK [44, 32] 0 k R = (Lib.cut R [44, 32]).1 :: Lib.splitK [44, 32] 0 k2 (Lib.cut R [44, 32]).2.1 ∧ (Lib.cut R [44, 32]).2.1.length < R.length ∧ (Lib.cut R [44, 32]).2.1.length ≤ k2 := by
  unfold Lib.cut at h ⊢
  split at h
  · rename_i hi
    rw [if_pos hi]
    have hne : ¬ (Lib.index R [44, 32] == -1) = true := by simp; omega
    have hsh := Lib.drop_shorter (s := R) (sub := [44, 32]) (by simp) hne
    obtain ⟨k2, rfl⟩ : ∃ k2, k = k2 + 1 := ⟨k - 1, by omega⟩
    refine ⟨k2, ?_, hsh, ?_⟩
    · rw [Lib.splitK, if_neg hne]; rfl
    · show (R.drop _).length ≤ k2
      omega
  · simp at h
theorem splitK_stop {R : List UInt8} {k : Nat} (h : (Lib.cut R [44, 32]).2.2 = false) : Lib.splitK [44, 32] 0 k R = [(Lib.cut R [44, 32]).1] := by
  unfold Lib.cut at h ⊢
  split at h
  · simp at h
  · rename_i hi
    rw [if_neg hi]
    have hx : Lib.index R [44, 32] = -1 := by
      have := Lib.index_ge R [44, 32]
      omega
    cases k with
    | zero => rfl
    | succ k => rw [Lib.splitK, if_pos (by rw [hx]; decide)]
/-- The document's own guess tells what is read. -/
theorem prs_doc (s : List UInt8) : (isT s (gDoc s) = true → prsT s = gDoc s ∧ prsE s = 0) ∧ (isT s (gDoc s) = false → prsT s = ⟨⟨#[]⟩, []⟩ ∧ prsE s = 3) := by
  constructor
  · intro h
    obtain ⟨h1, h2⟩ := prs_text (isT_iff.1 h)
    exact ⟨h2, h1⟩
  · intro h
    have := prs_no (s := s) (fun t ht => by
      have := isText_doc ht
      rw [this, isT_iff.2 ht] at h
      cases h)
    exact ⟨this.2, this.1⟩
def meas (mv rv : Value) : Nat := match mv, rv with
  | .bool true, .string s => s.size + 1
  | _, _ => 0
/-- Cut, at a text given by its bytes. -/
theorem rcutL_ (R p : List UInt8) (w : World) (hp : 0 < p.length) (hp2 : p.length ≤ 100) (hs : R.length ≤ 140737488355328) :
    Calls Tryd.prog 40 #[.string (ofL R), .string (ofL p)] w fun e w' => e = .returned (.tuple #[.string (ofL (Lib.cut R p).1), .string (ofL (Lib.cut R p).2.1), .bool (Lib.cut R p).2.2]) ∧ Below w.heap.size w w' := by
  have := rcut_ (ofL R) (ofL p) w (by rw [ofL_size]; exact hp) (by rw [ofL_size]; exact hp2) (by rw [ofL_size]; exact hs)
  rwa [lst_ofL, lst_ofL] at this
/-- What the document's Parse hands back. -/
def RParseTo (w : World) (s : List UInt8) (e : Ending) (w' : World) : Prop :=
  ∃ a c, e = .returned (.tuple #[.agg #[.string (prsT s).nm, .slice a (prsT s).cs.length c], .int .i64 (prsE s)]) ∧ ColsIn w' a (prsT s).cs ∧ Below w.heap.size w w'
set_option maxRecDepth 100000 in
set_option maxHeartbeats 2000000 in
theorem rparse_ (s : ByteArray) (w : World) (hs : s.size ≤ 1048576) : Calls Tryd.prog 22 #[.string s] w (RParseTo w (lst s)) := by
  obtain ⟨P0, hP0⟩ : ∃ P0, P0 = (Lib.cut (lst s) headW).2.1 := ⟨_, rfl⟩
  obtain ⟨PN, hPN⟩ : ∃ PN, PN = (Lib.cut P0 [32, 40]).1 := ⟨_, rfl⟩
  obtain ⟨P2, hP2⟩ : ∃ P2, P2 = (Lib.cut P0 [32, 40]).2.1 := ⟨_, rfl⟩
  obtain ⟨P3, hP3⟩ : ∃ P3, P3 = (Lib.cut P2 [41]).1 := ⟨_, rfl⟩
  obtain ⟨PS, hPS⟩ : ∃ PS, PS = Lib.splitK [44, 32] 0 (lst s).length P3 := ⟨_, rfl⟩
  have hl : (lst s).length ≤ 1048576 := by rw [← size_lst]; exact hs
  have l0 : P0.length ≤ (lst s).length := by rw [hP0]; exact (cut_lens _ _).2
  have l2 : P2.length ≤ (lst s).length := by rw [hP2]; exact Nat.le_trans (cut_lens P0 [32, 40]).2 l0
  have l3 : P3.length ≤ (lst s).length := by rw [hP3]; exact Nat.le_trans (cut_lens P2 [41]).1 l2
  have lN : PN.length ≤ (lst s).length := by rw [hPN]; exact Nat.le_trans (cut_lens P0 [32, 40]).1 l0
  have hPl : PS.length ≤ 1048577 := by rw [hPS]; exact Nat.le_trans (splitK_len _ _ _) (by omega)
  have hPm : ∀ p ∈ PS, p.length ≤ 1048576 := fun p hp => by rw [hPS] at hp; exact Nat.le_trans (splitK_mem _ _ _ p hp) (by omega)
  have hG : gDoc (lst s) = ⟨ofL PN, PS.map gCol⟩ := by rw [hPS, hP3, hP2, hPN, hP0]; rfl
  have hD := prs_doc (lst s)
  rw [hG] at hD
  have HC1 : Hid (∀ W, Calls Tryd.prog 40 #[.string s, .string ⟨#[84, 65, 66, 76, 69, 32]⟩] W fun e w' => ∃ x b, e = .returned (.tuple #[.string x, .string (ofL P0), .bool b]) ∧ Below W.heap.size W w') := fun W => by
    have := rcutL_ (lst s) headW W (by decide) (by decide) (by omega)
    rw [ofL_lst, ← hP0] at this
    exact this.mono fun e w' ⟨he, hb⟩ => ⟨_, _, he, hb⟩
  have HC2 : Hid (∀ W, Calls Tryd.prog 40 #[.string (ofL P0), .string ⟨#[32, 40]⟩] W fun e w' => ∃ b, e = .returned (.tuple #[.string (ofL PN), .string (ofL P2), .bool b]) ∧ Below W.heap.size W w') := fun W => by
    have := rcutL_ P0 [32, 40] W (by decide) (by decide) (by omega)
    rw [← hPN, ← hP2] at this
    exact this.mono fun e w' ⟨he, hb⟩ => ⟨_, he, hb⟩
  have HC3 : Hid (∀ W, Calls Tryd.prog 40 #[.string (ofL P2), .string ⟨#[41]⟩] W fun e w' => ∃ x b, e = .returned (.tuple #[.string (ofL P3), .string x, .bool b]) ∧ Below W.heap.size W w') := fun W => by
    have := rcutL_ P2 [41] W (by decide) (by decide) (by omega)
    rw [← hP3] at this
    exact this.mono fun e w' ⟨he, hb⟩ => ⟨_, _, he, hb⟩
  have HCc : Hid (∀ R, R.length ≤ 1048576 → ∀ W, Calls Tryd.prog 40 #[.string (ofL R), .string ⟨#[44, 32]⟩] W fun e w' => e = .returned (.tuple #[.string (ofL (Lib.cut R [44, 32]).1), .string (ofL (Lib.cut R [44, 32]).2.1), .bool (Lib.cut R [44, 32]).2.2]) ∧ Below W.heap.size W w') := fun R hR W => rcutL_ R [44, 32] W (by decide) (by decide) (by omega)
  have HCb : Hid (∀ R, R.length ≤ 1048576 → ∀ W, Calls Tryd.prog 40 #[.string (ofL R), .string ⟨#[32]⟩] W fun e w' => e = .returned (.tuple #[.string (ofL (Lib.cut R [32]).1), .string (ofL (Lib.cut R [32]).2.1), .bool (Lib.cut R [32]).2.2]) ∧ Below W.heap.size W w') := fun R hR W => rcutL_ R [32] W (by decide) (by decide) (by omega)
  have HTx : Hid (∀ W a c, ColsIn W a (PS.map gCol) → Calls Tryd.prog 9 #[.agg #[.string (ofL PN), .slice a (PS.map gCol).length c]] W fun e w' => e = .returned (.tuple #[.string (txtS ⟨ofL PN, PS.map gCol⟩), .int .i64 (chkT ⟨ofL PN, PS.map gCol⟩)]) ∧ Below W.heap.size W w') := fun W a c h => rtext_ (ofL PN) a c (PS.map gCol) W h (by rw [ofL_size]; omega) (fun x hx => by
    obtain ⟨p, hp, rfl⟩ := List.mem_map.1 hx
    show (ofL (Lib.cut p [32]).1).size ≤ _
    rw [ofL_size]
    have := hPm p hp
    have := (cut_lens p [32]).1
    omega)
  have HEq : Hid (chkT ⟨ofL PN, PS.map gCol⟩ = 0 → ((txtS ⟨ofL PN, PS.map gCol⟩).toList == s.toList) = isT (lst s) ⟨ofL PN, PS.map gCol⟩) := fun h => by
    rw [beq_lst, beq_dec, txtS, if_pos h, lst_ofL, isT, decide_eq_true h, Bool.true_and]
  have HNe : Hid (chkT ⟨ofL PN, PS.map gCol⟩ ≠ 0 → isT (lst s) ⟨ofL PN, PS.map gCol⟩ = false) := fun h => by rw [isT, decide_eq_false h, Bool.false_and]
  have HD := Lib.hid hD
  have HPS : Hid (Lib.splitK [44, 32] 0 (lst s).length P3 = PS ∧ P3.length ≤ (lst s).length ∧ P3.length ≤ 1048576 ∧ PS.length ≤ 1048577) := ⟨hPS.symm, l3, by omega, hPl⟩
  unfold RParseTo
  generalize prsT (lst s) = T at *
  generalize prsE (lst s) = E at *
  generalize isT (lst s) ⟨ofL PN, PS.map gCol⟩ = ok at *
  generalize (lst s).length = K0 at *
  clear hP0 hPN hP2 hP3 hPS hl l0 l2 l3 lN hPl hPm hG hD hs
  generalize ofL PN = nm at *
  generalize ofL P0 = Q0 at *
  generalize ofL P2 = Q2 at *
  obtain ⟨W1, hW1⟩ : ∃ W1, W1 = w.alloc (.cells #[.string ⟨#[]⟩, .slice none 0 0] 24) := ⟨_, rfl⟩
  have HB1 : Hid (Below w.heap.size w W1) := by show Below _ _ _; rw [hW1]; exact below_alloc1 _ _
  have HT1 : Hid (TbB W1 w.heap.size ⟨#[]⟩ (.slice none 0 0)) := by show TbB _ _ _ _; rw [hW1]; exact tbB_new _ _ _ _ _ _
  have HW1 := Lib.hid hW1.symm
  clear hW1
  go_enter Tryd.func22, Tryd.ntmps22
  go_wp2_with fail
  rw [HW1.out]
  refine (HC1.out _).mono ?_
  rintro e w1 ⟨x1, b1, rfl, hb1⟩
  go_wp2_with fail
  refine (HC2.out _).mono ?_
  rintro e w2 ⟨b2, rfl, hb2⟩
  go_wp2_with fail
  refine (HC3.out _).mono ?_
  rintro e w3 ⟨x3, b3, rfl, hb3⟩
  have HB3 := Lib.hid (below_step (below_step (below_step HB1.out hb1) hb2) hb3)
  have HT3 := Lib.hid (((HT1.out.on hb1).on hb2).on hb3)
  clear hb1 hb2 hb3 HC1 HC2 HC3 HB1 HT1
  obtain ⟨W4, hW4⟩ : ∃ W4, W4 = w3.alloc (.cells #[.string nm, .slice none 0 0] 24) := ⟨_, rfl⟩
  have hb4 : Below w3.heap.size w3 W4 := by rw [hW4]; exact below_alloc1 _ _
  obtain ⟨N, hN⟩ : ∃ N, W4.heap.size = N := ⟨_, rfl⟩
  obtain ⟨B9, hB9⟩ : ∃ B9, w3.heap.size = B9 := ⟨_, rfl⟩
  have HDm : Hid (w.heap.size < B9 ∧ B9 < N) := ⟨by rw [← hB9]; exact HT3.out.lt, by rw [← hN, hW4, ← hB9]; simp⟩
  have HR4 : Hid (Rk w B9 N nm none 0 0 (([] : List (List UInt8)).map gCol) W4) := ⟨HT3.out.on hb4, by rw [hW4, ← hB9]; exact tbB_new _ _ _ _ _ _, ownC_nil _ _, below_step HB3.out hb4, by rw [hN]; exact Nat.le_refl _⟩
  have HW4 := Lib.hid hW4.symm
  clear hW4 hb4 hN HB3 HT3
  go_wp2_with fail
  rw [HW4.out]
  clear hB9
  go_loopw [5, 10] (fun rv mv wr => ∃ (mb : Bool) (R : List UInt8) (k : Nat) (D : List (List UInt8)) (a : Option Addr) (n c : Nat), mv = .bool mb ∧ rv = .string (ofL R) ∧ Hid (R.length ≤ 1048576 ∧ (mb = true → D ++ Lib.splitK [44, 32] 0 k R = PS ∧ R.length ≤ k) ∧ (mb = false → D = PS)) ∧ Hid (Rk w B9 N nm a n c (D.map gCol) wr)) (fun rv mv _ => meas mv rv)
  case atStart => exact ⟨true, P3, K0, [], none, 0, 0, rfl, rfl, ⟨HPS.out.2.2.1, fun _ => ⟨by rw [List.nil_append]; exact HPS.out.1, HPS.out.2.1⟩, fun h => by cases h⟩, HR4⟩
  case round =>
    obtain ⟨mb, R, k, D, a, n, c, rfl, rfl, HI, HR⟩ := hrel
    cases mb with
    | true =>
      have HCu := Lib.hid (HCc.out R HI.out.1)
      have hXl := cut_lens R [44, 32]
      have HX : Hid ((Lib.cut R [44, 32]).1.length ≤ 1048576 ∧ (Lib.cut R [44, 32]).2.1.length ≤ 1048576 ∧ D.length ≤ 1048577 ∧ ((Lib.cut R [44, 32]).2.2 = true → ∃ k2, (D ++ [(Lib.cut R [44, 32]).1]) ++ Lib.splitK [44, 32] 0 k2 (Lib.cut R [44, 32]).2.1 = PS ∧ (Lib.cut R [44, 32]).2.1.length ≤ k2 ∧ (Lib.cut R [44, 32]).2.1.length < R.length) ∧ ((Lib.cut R [44, 32]).2.2 = false → D ++ [(Lib.cut R [44, 32]).1] = PS)) := by
        obtain ⟨hR, h1, _⟩ := HI.out
        obtain ⟨h2, h3⟩ := h1 rfl
        refine ⟨by omega, by omega, ?_, fun ht => ?_, fun hf => ?_⟩
        · have := HPS.out.2.2.2
          rw [← h2, List.length_append] at this
          omega
        · obtain ⟨k2, h4, h5, h6⟩ := splitK_step ht h3
          exact ⟨k2, by rw [← h2, h4, List.append_assoc]; rfl, h6, h5⟩
        · rw [← h2, splitK_stop hf]
      have HMe : Hid (meas (.bool true) (.string (ofL R)) = R.length + 1) := by show (ofL R).size + 1 = _; rw [ofL_size]
      generalize (Lib.cut R [44, 32]).1 = X1 at *
      generalize (Lib.cut R [44, 32]).2.1 = X2 at *
      generalize (Lib.cut R [44, 32]).2.2 = X3 at *
      have HCa := Lib.hid (HCb.out X1 HX.out.1)
      have HCd := Lib.hid (HCb.out (Lib.cut X1 [32]).2.1 (Nat.le_trans (cut_lens X1 [32]).2 HX.out.1))
      have HG : Hid (gCol X1 = ⟨ofL (Lib.cut X1 [32]).1, kindN (Lib.cut (Lib.cut X1 [32]).2.1 [32]).1, (ofL (Lib.cut (Lib.cut X1 [32]).2.1 [32]).2.1).toList == [75, 69, 89], (ofL (Lib.cut (Lib.cut X1 [32]).2.1 [32]).2.1).toList == [78, 85, 76, 76]⟩) := by
        show _ = _
        rw [toList_lst, lst_ofL]; rfl
      generalize ofL (Lib.cut (Lib.cut X1 [32]).2.1 [32]).2.1 = TL at *
      generalize (Lib.cut (Lib.cut X1 [32]).2.1 [32]).2.2 = b7 at *
      have HWd : Hid ((ofL (Lib.cut (Lib.cut X1 [32]).2.1 [32]).1).toList = (Lib.cut (Lib.cut X1 [32]).2.1 [32]).1) := by show _ = _; rw [toList_lst, lst_ofL]
      generalize (Lib.cut (Lib.cut X1 [32]).2.1 [32]).1 = WD at *
      generalize ofL (Lib.cut X1 [32]).2.1 = TA at *
      generalize ofL (Lib.cut X1 [32]).1 = cn at *
      generalize (Lib.cut X1 [32]).2.2 = b6 at *
      generalize ofL R = RB at *
      generalize hky : (TL.toList == [75, 69, 89]) = ky at *
      generalize hnl : (TL.toList == [78, 85, 76, 76]) = nl at *
      generalize ofL WD = WB at *
      have hml : ((D.map gCol).length + 1) * 32 ≤ 140737488355328 := by rw [List.length_map]; have := HX.out.2.2.1; omega
      clear hXl HI HCb HCc
      go_wp2_with fail
      refine (HCu.out _).mono ?_
      rintro e w5 ⟨rfl, hb5⟩
      have HR5 := Lib.hid (HR.out.on hb5)
      have HR6 := Lib.hid (HR5.out.on (below_alloc1 w5 (.cells #[.string ⟨#[]⟩, .int .i64 0, .bool false, .bool false] 55)))
      have HC6 : Hid (CoB (w5.alloc (.cells #[.string ⟨#[]⟩, .int .i64 0, .bool false, .bool false] 55)) w5.heap.size ⟨#[]⟩ 0 false false) := coB_new w5 ⟨⟨#[]⟩, 0, false, false⟩ 55
      have HL5 : Hid (B9 < w5.heap.size ∧ w.heap.size < w5.heap.size ∧ ∀ b o', a = some ⟨b, o', none⟩ → b < w5.heap.size) := ⟨HR5.out.b9.lt, HR5.out.b2.lt, HR5.out.lt⟩
      clear hb5 HCu HR HR5
      go_wp2_with fail
      refine (HCa.out _).mono ?_
      rintro e w7 ⟨rfl, hb7⟩
      have HR7 := Lib.hid (HR6.out.on hb7)
      have HC7 := Lib.hid (HC6.out.on hb7)
      obtain ⟨Bc, hBc⟩ : ∃ Bc, w5.heap.size = Bc := ⟨_, rfl⟩
      rw [hBc] at HC7 HL5
      obtain ⟨⟨c0, c1, c2, c3⟩, f0, f1, f2, f3⟩ := HC7.out
      clear hb7 HCa HR6 HC6
      go_wp2_with fail
      have HR8 : Hid (Rk w B9 N nm a n c (D.map gCol) (w7.setCell ⟨Bc, 0, none⟩ (.string cn))) := HR7.out.set HL5.out.2.1 HL5.out.1 HL5.out.2.2
      have HC8 := Lib.hid (HC7.out.set0 cn)
      generalize w7.setCell ⟨Bc, 0, none⟩ (.string cn) = W8 at *
      clear HR7 HC7 c0 c1 c2 c3 f0 f1 f2 f3
      refine (HCd.out _).mono ?_
      rintro e w9 ⟨rfl, hb9⟩
      have HR9 := Lib.hid (HR8.out.on hb9)
      have HC9 := Lib.hid (HC8.out.on hb9)
      clear hb9 HCd HR8 HC8
      obtain ⟨⟨c0, c1, c2, c3⟩, f0, f1, f2, f3⟩ := HC9.out
      have hwd := HWd.out
      by_cases e1 : WD = [73, 78, 84]
      · have hk : kindN WD = 1 := by rw [e1]; rfl
        rw [hk] at HG
        rw [e1] at hwd
        clear e1 hk HWd
        have hus : (((w9.setCell ⟨Bc, 1, none⟩ (.int .i64 1)).setCell ⟨Bc, 2, none⟩ (.bool ky)).setCell ⟨Bc, 3, none⟩ (.bool nl)).heap.size = w9.heap.size := by simp [go_sem]
        have HRu : Hid (Rk w B9 N nm a n c (D.map gCol) ((((w9.setCell ⟨Bc, 1, none⟩ (.int .i64 1)).setCell ⟨Bc, 2, none⟩ (.bool ky)).setCell ⟨Bc, 3, none⟩ (.bool nl)).alloc (.cells #[.string cn, .int .i64 1, .bool ky, .bool nl] 55))) := (((HR9.out.set HL5.out.2.1 HL5.out.1 HL5.out.2.2).set HL5.out.2.1 HL5.out.1 HL5.out.2.2).set HL5.out.2.1 HL5.out.1 HL5.out.2.2).on (below_alloc1 _ _)
        obtain ⟨a3, n3, c9, V3, hap, hb9, hrk⟩ := HRu.out.more HDm.out.1 HDm.out.2 (inC_new (((w9.setCell ⟨Bc, 1, none⟩ (.int .i64 1)).setCell ⟨Bc, 2, none⟩ (.bool ky)).setCell ⟨Bc, 3, none⟩ (.bool nl)) ⟨cn, 1, ky, nl⟩ 55) hml
        rw [hus] at hap
        have HB9 := Lib.hid hb9
        have HRn : Hid (Rk w B9 N nm a3 n3 c9 ((D ++ [X1]).map gCol) (V3.setCell ⟨B9, 1, none⟩ (.slice a3 n3 c9))) := by rw [List.map_append]; show Rk _ _ _ _ _ _ _ (D.map gCol ++ [gCol X1]) _; rw [HG.out]; exact hrk
        obtain ⟨g0, g1, _, _⟩ := HR9.out.b9
        have hne : Bc ≠ B9 := Nat.ne_of_gt HL5.out.1
        have hne2 : B9 ≠ Bc := Nat.ne_of_lt HL5.out.1
        clear hus HRu hb9 hrk HG hml
        go_wp2_with (first | (refine wpList_exec rfl (exec_append rfl rfl rfl hap) ?_; clear hap; obtain ⟨r0, r1, q0, q1⟩ := HB9.out) | fail)
        cases X3 with
        | true =>
          obtain ⟨k2, m1, m2, m3⟩ := HX.out.2.2.2.1 rfl
          have HI2 : Hid (X2.length ≤ 1048576 ∧ ((true : Bool) = true → (D ++ [X1]) ++ Lib.splitK [44, 32] 0 k2 X2 = PS ∧ X2.length ≤ k2) ∧ ((true : Bool) = false → D ++ [X1] = PS)) := ⟨HX.out.2.1, fun _ => ⟨m1, m2⟩, fun h => by cases h⟩
          have HM2 : Hid (meas (.bool true) (.string (ofL X2)) < meas (.bool true) (.string RB)) := by show _ < _; rw [HMe.out]; show (ofL X2).size + 1 < _; rw [ofL_size]; omega
          clear m1 m2 m3 HX HMe
          go_roundw
          case rel => exact ⟨true, X2, k2, D ++ [X1], a3, n3, c9, rfl, rfl, HI2, HRn⟩
          case measure => exact HM2.out
        | false =>
          have HI2 : Hid (X2.length ≤ 1048576 ∧ ((false : Bool) = true → (D ++ [X1]) ++ Lib.splitK [44, 32] 0 0 X2 = PS ∧ X2.length ≤ 0) ∧ ((false : Bool) = false → D ++ [X1] = PS)) := ⟨HX.out.2.1, fun h => (by cases h), fun _ => HX.out.2.2.2.2 rfl⟩
          have HM2 : Hid (meas (.bool false) (.string (ofL X2)) < meas (.bool true) (.string RB)) := by show _ < _; rw [HMe.out]; exact Nat.succ_pos _
          clear HX HMe
          go_roundw
          case rel => exact ⟨false, X2, 0, D ++ [X1], a3, n3, c9, rfl, rfl, HI2, HRn⟩
          case measure => exact HM2.out
      by_cases e2 : WD = [84, 69, 88, 84]
      · have hk : kindN WD = 2 := by rw [e2]; rfl
        rw [hk] at HG
        rw [e2] at hwd
        clear e1 e2 hk HWd
        have hus : (((w9.setCell ⟨Bc, 1, none⟩ (.int .i64 2)).setCell ⟨Bc, 2, none⟩ (.bool ky)).setCell ⟨Bc, 3, none⟩ (.bool nl)).heap.size = w9.heap.size := by simp [go_sem]
        have HRu : Hid (Rk w B9 N nm a n c (D.map gCol) ((((w9.setCell ⟨Bc, 1, none⟩ (.int .i64 2)).setCell ⟨Bc, 2, none⟩ (.bool ky)).setCell ⟨Bc, 3, none⟩ (.bool nl)).alloc (.cells #[.string cn, .int .i64 2, .bool ky, .bool nl] 55))) := (((HR9.out.set HL5.out.2.1 HL5.out.1 HL5.out.2.2).set HL5.out.2.1 HL5.out.1 HL5.out.2.2).set HL5.out.2.1 HL5.out.1 HL5.out.2.2).on (below_alloc1 _ _)
        obtain ⟨a3, n3, c9, V3, hap, hb9, hrk⟩ := HRu.out.more HDm.out.1 HDm.out.2 (inC_new (((w9.setCell ⟨Bc, 1, none⟩ (.int .i64 2)).setCell ⟨Bc, 2, none⟩ (.bool ky)).setCell ⟨Bc, 3, none⟩ (.bool nl)) ⟨cn, 2, ky, nl⟩ 55) hml
        rw [hus] at hap
        have HB9 := Lib.hid hb9
        have HRn : Hid (Rk w B9 N nm a3 n3 c9 ((D ++ [X1]).map gCol) (V3.setCell ⟨B9, 1, none⟩ (.slice a3 n3 c9))) := by rw [List.map_append]; show Rk _ _ _ _ _ _ _ (D.map gCol ++ [gCol X1]) _; rw [HG.out]; exact hrk
        obtain ⟨g0, g1, _, _⟩ := HR9.out.b9
        have hne : Bc ≠ B9 := Nat.ne_of_gt HL5.out.1
        have hne2 : B9 ≠ Bc := Nat.ne_of_lt HL5.out.1
        clear hus HRu hb9 hrk HG hml
        go_wp2_with (first | (refine wpList_exec rfl (exec_append rfl rfl rfl hap) ?_; clear hap; obtain ⟨r0, r1, q0, q1⟩ := HB9.out) | fail)
        cases X3 with
        | true =>
          obtain ⟨k2, m1, m2, m3⟩ := HX.out.2.2.2.1 rfl
          have HI2 : Hid (X2.length ≤ 1048576 ∧ ((true : Bool) = true → (D ++ [X1]) ++ Lib.splitK [44, 32] 0 k2 X2 = PS ∧ X2.length ≤ k2) ∧ ((true : Bool) = false → D ++ [X1] = PS)) := ⟨HX.out.2.1, fun _ => ⟨m1, m2⟩, fun h => by cases h⟩
          have HM2 : Hid (meas (.bool true) (.string (ofL X2)) < meas (.bool true) (.string RB)) := by show _ < _; rw [HMe.out]; show (ofL X2).size + 1 < _; rw [ofL_size]; omega
          clear m1 m2 m3 HX HMe
          go_roundw
          case rel => exact ⟨true, X2, k2, D ++ [X1], a3, n3, c9, rfl, rfl, HI2, HRn⟩
          case measure => exact HM2.out
        | false =>
          have HI2 : Hid (X2.length ≤ 1048576 ∧ ((false : Bool) = true → (D ++ [X1]) ++ Lib.splitK [44, 32] 0 0 X2 = PS ∧ X2.length ≤ 0) ∧ ((false : Bool) = false → D ++ [X1] = PS)) := ⟨HX.out.2.1, fun h => (by cases h), fun _ => HX.out.2.2.2.2 rfl⟩
          have HM2 : Hid (meas (.bool false) (.string (ofL X2)) < meas (.bool true) (.string RB)) := by show _ < _; rw [HMe.out]; exact Nat.succ_pos _
          clear HX HMe
          go_roundw
          case rel => exact ⟨false, X2, 0, D ++ [X1], a3, n3, c9, rfl, rfl, HI2, HRn⟩
          case measure => exact HM2.out
      by_cases e3 : WD = [66, 79, 79, 76]
      · have hk : kindN WD = 3 := by rw [e3]; rfl
        rw [hk] at HG
        rw [e3] at hwd
        clear e1 e2 e3 hk HWd
        have hus : (((w9.setCell ⟨Bc, 1, none⟩ (.int .i64 3)).setCell ⟨Bc, 2, none⟩ (.bool ky)).setCell ⟨Bc, 3, none⟩ (.bool nl)).heap.size = w9.heap.size := by simp [go_sem]
        have HRu : Hid (Rk w B9 N nm a n c (D.map gCol) ((((w9.setCell ⟨Bc, 1, none⟩ (.int .i64 3)).setCell ⟨Bc, 2, none⟩ (.bool ky)).setCell ⟨Bc, 3, none⟩ (.bool nl)).alloc (.cells #[.string cn, .int .i64 3, .bool ky, .bool nl] 55))) := (((HR9.out.set HL5.out.2.1 HL5.out.1 HL5.out.2.2).set HL5.out.2.1 HL5.out.1 HL5.out.2.2).set HL5.out.2.1 HL5.out.1 HL5.out.2.2).on (below_alloc1 _ _)
        obtain ⟨a3, n3, c9, V3, hap, hb9, hrk⟩ := HRu.out.more HDm.out.1 HDm.out.2 (inC_new (((w9.setCell ⟨Bc, 1, none⟩ (.int .i64 3)).setCell ⟨Bc, 2, none⟩ (.bool ky)).setCell ⟨Bc, 3, none⟩ (.bool nl)) ⟨cn, 3, ky, nl⟩ 55) hml
        rw [hus] at hap
        have HB9 := Lib.hid hb9
        have HRn : Hid (Rk w B9 N nm a3 n3 c9 ((D ++ [X1]).map gCol) (V3.setCell ⟨B9, 1, none⟩ (.slice a3 n3 c9))) := by rw [List.map_append]; show Rk _ _ _ _ _ _ _ (D.map gCol ++ [gCol X1]) _; rw [HG.out]; exact hrk
        obtain ⟨g0, g1, _, _⟩ := HR9.out.b9
        have hne : Bc ≠ B9 := Nat.ne_of_gt HL5.out.1
        have hne2 : B9 ≠ Bc := Nat.ne_of_lt HL5.out.1
        clear hus HRu hb9 hrk HG hml
        go_wp2_with (first | (refine wpList_exec rfl (exec_append rfl rfl rfl hap) ?_; clear hap; obtain ⟨r0, r1, q0, q1⟩ := HB9.out) | fail)
        cases X3 with
        | true =>
          obtain ⟨k2, m1, m2, m3⟩ := HX.out.2.2.2.1 rfl
          have HI2 : Hid (X2.length ≤ 1048576 ∧ ((true : Bool) = true → (D ++ [X1]) ++ Lib.splitK [44, 32] 0 k2 X2 = PS ∧ X2.length ≤ k2) ∧ ((true : Bool) = false → D ++ [X1] = PS)) := ⟨HX.out.2.1, fun _ => ⟨m1, m2⟩, fun h => by cases h⟩
          have HM2 : Hid (meas (.bool true) (.string (ofL X2)) < meas (.bool true) (.string RB)) := by show _ < _; rw [HMe.out]; show (ofL X2).size + 1 < _; rw [ofL_size]; omega
          clear m1 m2 m3 HX HMe
          go_roundw
          case rel => exact ⟨true, X2, k2, D ++ [X1], a3, n3, c9, rfl, rfl, HI2, HRn⟩
          case measure => exact HM2.out
        | false =>
          have HI2 : Hid (X2.length ≤ 1048576 ∧ ((false : Bool) = true → (D ++ [X1]) ++ Lib.splitK [44, 32] 0 0 X2 = PS ∧ X2.length ≤ 0) ∧ ((false : Bool) = false → D ++ [X1] = PS)) := ⟨HX.out.2.1, fun h => (by cases h), fun _ => HX.out.2.2.2.2 rfl⟩
          have HM2 : Hid (meas (.bool false) (.string (ofL X2)) < meas (.bool true) (.string RB)) := by show _ < _; rw [HMe.out]; exact Nat.succ_pos _
          clear HX HMe
          go_roundw
          case rel => exact ⟨false, X2, 0, D ++ [X1], a3, n3, c9, rfl, rfl, HI2, HRn⟩
          case measure => exact HM2.out
      · have hk : kindN WD = 0 := kindN_no e1 e2 e3
        rw [hk] at HG
        have h1 : (WB.toList == [73, 78, 84]) = false := by rw [hwd]; simpa using e1
        have h2 : (WB.toList == [84, 69, 88, 84]) = false := by rw [hwd]; simpa using e2
        have h3 : (WB.toList == [66, 79, 79, 76]) = false := by rw [hwd]; simpa using e3
        clear e1 e2 e3 hk HWd hwd
        have hus : ((w9.setCell ⟨Bc, 2, none⟩ (.bool ky)).setCell ⟨Bc, 3, none⟩ (.bool nl)).heap.size = w9.heap.size := by simp [go_sem]
        have HRu : Hid (Rk w B9 N nm a n c (D.map gCol) (((w9.setCell ⟨Bc, 2, none⟩ (.bool ky)).setCell ⟨Bc, 3, none⟩ (.bool nl)).alloc (.cells #[.string cn, .int .i64 0, .bool ky, .bool nl] 55))) := ((HR9.out.set HL5.out.2.1 HL5.out.1 HL5.out.2.2).set HL5.out.2.1 HL5.out.1 HL5.out.2.2).on (below_alloc1 _ _)
        obtain ⟨a3, n3, c9, V3, hap, hb9, hrk⟩ := HRu.out.more HDm.out.1 HDm.out.2 (inC_new ((w9.setCell ⟨Bc, 2, none⟩ (.bool ky)).setCell ⟨Bc, 3, none⟩ (.bool nl)) ⟨cn, 0, ky, nl⟩ 55) hml
        rw [hus] at hap
        have HB9 := Lib.hid hb9
        have HRn : Hid (Rk w B9 N nm a3 n3 c9 ((D ++ [X1]).map gCol) (V3.setCell ⟨B9, 1, none⟩ (.slice a3 n3 c9))) := by rw [List.map_append]; show Rk _ _ _ _ _ _ _ (D.map gCol ++ [gCol X1]) _; rw [HG.out]; exact hrk
        obtain ⟨g0, g1, _, _⟩ := HR9.out.b9
        have hne : Bc ≠ B9 := Nat.ne_of_gt HL5.out.1
        have hne2 : B9 ≠ Bc := Nat.ne_of_lt HL5.out.1
        clear hus HRu hb9 hrk HG hml
        go_wp2_with (first | (refine wpList_exec rfl (exec_append rfl rfl rfl hap) ?_; clear hap; obtain ⟨r0, r1, q0, q1⟩ := HB9.out) | fail)
        cases X3 with
        | true =>
          obtain ⟨k2, m1, m2, m3⟩ := HX.out.2.2.2.1 rfl
          have HI2 : Hid (X2.length ≤ 1048576 ∧ ((true : Bool) = true → (D ++ [X1]) ++ Lib.splitK [44, 32] 0 k2 X2 = PS ∧ X2.length ≤ k2) ∧ ((true : Bool) = false → D ++ [X1] = PS)) := ⟨HX.out.2.1, fun _ => ⟨m1, m2⟩, fun h => by cases h⟩
          have HM2 : Hid (meas (.bool true) (.string (ofL X2)) < meas (.bool true) (.string RB)) := by show _ < _; rw [HMe.out]; show (ofL X2).size + 1 < _; rw [ofL_size]; omega
          clear m1 m2 m3 HX HMe
          go_roundw
          case rel => exact ⟨true, X2, k2, D ++ [X1], a3, n3, c9, rfl, rfl, HI2, HRn⟩
          case measure => exact HM2.out
        | false =>
          have HI2 : Hid (X2.length ≤ 1048576 ∧ ((false : Bool) = true → (D ++ [X1]) ++ Lib.splitK [44, 32] 0 0 X2 = PS ∧ X2.length ≤ 0) ∧ ((false : Bool) = false → D ++ [X1] = PS)) := ⟨HX.out.2.1, fun h => (by cases h), fun _ => HX.out.2.2.2.2 rfl⟩
          have HM2 : Hid (meas (.bool false) (.string (ofL X2)) < meas (.bool true) (.string RB)) := by show _ < _; rw [HMe.out]; exact Nat.succ_pos _
          clear HX HMe
          go_roundw
          case rel => exact ⟨false, X2, 0, D ++ [X1], a3, n3, c9, rfl, rfl, HI2, HRn⟩
          case measure => exact HM2.out
    | false =>
      have HDe := Lib.hid (HI.out.2.2 rfl)
      rw [HDe.out] at HR
      clear HI HDe HCb HCc
      have HTb := Lib.hid HR.out.b9
      have hcp := HR.out.row.cap
      obtain ⟨hn, hnc, hna, hfr⟩ := hcp
      obtain ⟨a', c', e, hcol, _⟩ := HR.out.row.cols
      simp only [Value.slice.injEq] at e
      obtain ⟨rfl, rfl, rfl⟩ := e
      have HX := Lib.hid (HTx.out wr a c hcol)
      generalize hL : (PS.map gCol).length = L at *
      have HLn := Lib.hid hL
      clear hL
      obtain ⟨t0, t1, _, _⟩ := HTb.out
      clear hn hnc hna hfr hcol
      go_wp2_with fail
      refine HX.out.mono ?_
      rintro e w5 ⟨rfl, hb5⟩
      have HR5 := Lib.hid (HR.out.on hb5)
      clear hb5 HX HTx HTb t0 t1
      obtain ⟨t0, t1, _, _⟩ := HR5.out.b9
      obtain ⟨s0, s1, f0, f1⟩ := HR5.out.b2
      have HBr : Hid (∀ u v, Below w.heap.size w ((w5.setCell ⟨w.heap.size, 0, none⟩ u).setCell ⟨w.heap.size, 1, none⟩ v)) := fun u v => (HR5.out.bw.setCell (Nat.le_refl _) _).setCell (Nat.le_refl _) _
      have HCr : Hid (∀ u v, ColsIn ((w5.setCell ⟨w.heap.size, 0, none⟩ u).setCell ⟨w.heap.size, 1, none⟩ v) a (PS.map gCol)) := fun u v => by
        obtain ⟨a', c', e, hc, _⟩ := ((HR5.out.row.set (B := w.heap.size) (o := 0) (u := u) (by have := HDm.out; omega)).set (B := w.heap.size) (o := 1) (u := v) (by have := HDm.out; omega)).cols
        simp only [Value.slice.injEq] at e
        obtain ⟨rfl, _, _⟩ := e
        exact hc
      by_cases h0 : chkT ⟨nm, PS.map gCol⟩ = 0
      · have h1 := HEq.out h0
        rw [h0]
        generalize txtS ⟨nm, PS.map gCol⟩ = X at *
        clear h0 HEq HNe
        cases ok with
        | true =>
          have HF := Lib.hid (HD.out.1 rfl)
          clear HD
          go_wp2_with fail
          refine bodyPost_ret (v := .tuple #[.agg #[.string nm, .slice a L c], .int .i64 0]) ?_ rfl ⟨a, c, ?_, ?_, HBr.out _ _⟩
          · simp [results, Tryd.results22, go_sem, s0, s1]
          · rw [HF.out.1, HF.out.2]; exact congrArg (fun z => Ending.returned (.tuple #[.agg #[.string nm, .slice a z c], .int .i64 0])) HLn.out.symm
          · rw [HF.out.1]; exact HCr.out _ _
        | false =>
          have HF := Lib.hid (HD.out.2 rfl)
          clear HD
          go_wp2_with fail
          refine bodyPost_ret (v := .tuple #[.agg #[.string ⟨#[]⟩, .slice none 0 0], .int .i64 3]) ?_ rfl ⟨none, 0, ?_, ?_, HBr.out _ _⟩
          · simp [results, Tryd.results22, go_sem, s0, s1]
          · rw [HF.out.1, HF.out.2]; rfl
          · rw [HF.out.1]; exact colsIn_nil _ _
      · have hk := HNe.out h0
        subst hk
        have HF := Lib.hid (HD.out.2 rfl)
        obtain ⟨Z, hZ⟩ : ∃ Z, chkT ⟨nm, PS.map gCol⟩ = Z := ⟨_, rfl⟩
        rw [hZ] at h0
        rw [hZ]
        have h01 : (Z != 0) = true := by simpa using h0
        have h02 : (Z == 0) = false := by simpa using h0
        clear HD HEq HNe h0 hZ
        go_wp2_with fail
        refine bodyPost_ret (v := .tuple #[.agg #[.string ⟨#[]⟩, .slice none 0 0], .int .i64 3]) ?_ rfl ⟨none, 0, ?_, ?_, HBr.out _ _⟩
        · simp [results, Tryd.results22, go_sem, s0, s1]
        · rw [HF.out.1, HF.out.2]; rfl
        · rw [HF.out.1]; exact colsIn_nil _ _
end Go.Proofs.YtlgnllnjhpihdaaDoor
