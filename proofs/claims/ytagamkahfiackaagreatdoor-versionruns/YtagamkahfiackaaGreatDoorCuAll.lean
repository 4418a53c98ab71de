/- least; All, and its iterator: the items of a tree that lie in a range, in order. -/
import Derived.Test.YtagamkahfiackaaGreatDoorCuSel
import Derived.Test.YtagamkahfiackaaGreatDoorCuHas
import Derived.Test.YtagamkahfiackaaGreatDoorCuPh
import Derived.Test.YtagamkahfiackaaGreatDoorVLast
import Derived.RangeFuncWrites
import Derived.RangeFuncBox
import Derived.RangeFuncLeaves
import Derived.RangeFuncCalls
import Derived.RangeFuncBound
import Derived.Shelf.Abstract
import Derived.OwnWalkIn
import Derived.TacticsInMore
import Derived.LoopNIn
import Derived.LoopIn
import Derived.Sort.QuietIn
import Derived.Sort.LoopGhostIn
namespace Go.Proofs.YtagamkahfiackaaGreatDoor
open Go.RowKit Go.Sort Go.Shelf

attribute [local go_sem] Oper.semAt_some
theorem wide_fn (f : Nat) : Fence.wide.fn f := trivial
theorem wide_round : Fence.wide.round = none := rfl
theorem tell_parts (o : Option It) : ∃ (t1 : ByteArray) (t2 : Vl) (b : Bool), tellV o = .tuple #[.string t1, .slice t2.a t2.n t2.c, .bool b] ∧ ((o = none ∧ b = false) ∨ ∃ x : It, o = some x ∧ t1 = x.1 ∧ t2 = x.2 ∧ b = true) := by
  cases o with
  | none => exact ⟨⟨#[]⟩, vz, false, rfl, .inl ⟨rfl, rfl⟩⟩
  | some x => exact ⟨_, _, _, rfl, .inr ⟨x, rfl, rfl, rfl, rfl⟩⟩
set_option maxRecDepth 100000 in
set_option maxHeartbeats 1000000 in
theorem least_ {w : World} {M : Nat → Option Nd} {p : Nat} {l : List It} {F : Nat → Prop} (hs : Store w M) (ht : TreeAt w M p l F) (r : Rg) :
    Calls Tryz.prog 44 #[.pointer (some ⟨p, 0, none⟩), rgV r] w fun e w' => e = .returned (tellV (lstO r l)) ∧ Below w.heap.size w w' := by
  obtain ⟨t1, t2, b, e1, _⟩ := tell_parts (lstO r l)
  rw [e1]
  obtain ⟨f, t, hf, ho, pf, po⟩ := r
  have HB0 := Lib.hid (below_alloc w (.cells #[.string f, .string t, .bool hf, .bool ho, .bool pf, .bool po] 28))
  cases hf with
  | false =>
    have HC : Hid (Calls Tryz.prog 61 #[.pointer (some ⟨p, 0, none⟩)] (w.alloc (.cells #[.string f, .string t, .bool false, .bool ho, .bool pf, .bool po] 28)) fun e w' => e = .returned (.tuple #[.string t1, .slice t2.a t2.n t2.c, .bool b]) ∧ Below (w.alloc (.cells #[.string f, .string t, .bool false, .bool ho, .bool pf, .bool po] 28)).heap.size (w.alloc (.cells #[.string f, .string t, .bool false, .bool ho, .bool pf, .bool po] 28)) w') := by
      have := tfirst_ (hs.on HB0.out) (ht.on HB0.out)
      rw [← lst_first (r := ⟨f, t, false, ho, pf, po⟩) rfl, e1] at this
      exact this
    clear hs ht e1
    unfold rgV
    dsimp only
    go_enter Tryz.func44, Tryz.ntmps44
    go_wp2_with (first | (go_at_call 61; refine HC.out.mono ?_; rintro e w' ⟨rfl, hb⟩; have HB := Lib.hid hb; clear hb HC) | fail)
    go_ret3
    exact ⟨rfl, below_step HB0.out HB.out⟩
  | true =>
    have HC : Hid (Calls Tryz.prog 46 #[.pointer (some ⟨p, 0, none⟩), .string f, .bool pf] (w.alloc (.cells #[.string f, .string t, .bool true, .bool ho, .bool pf, .bool po] 28)) fun e w' => e = .returned (.tuple #[.string t1, .slice t2.a t2.n t2.c, .bool b]) ∧ Below (w.alloc (.cells #[.string f, .string t, .bool true, .bool ho, .bool pf, .bool po] 28)).heap.size (w.alloc (.cells #[.string f, .string t, .bool true, .bool ho, .bool pf, .bool po] 28)) w') := by
      have := tfrom_ (hs.on HB0.out) (ht.on HB0.out) f pf
      rw [show l.find? (frP f pf) = lstO ⟨f, t, true, ho, pf, po⟩ l by unfold lstO; rw [← frP_beh ⟨f, t, true, ho, pf, po⟩ rfl], e1] at this
      exact this
    clear hs ht e1
    unfold rgV
    dsimp only
    go_enter Tryz.func44, Tryz.ntmps44
    go_wp2_with (first | (go_at_call 46; refine HC.out.mono ?_; rintro e w' ⟨rfl, hb⟩; have HB := Lib.hid hb; clear hb HC) | fail)
    go_ret3
    exact ⟨rfl, below_step HB0.out HB.out⟩
/-- What an iterator leans on: the tree, and its two boxes. -/
structure Tr (W : World) (M : Nat → Option Nd) (p : Nat) (l : List It) (F : Nat → Prop) (bt br : Nat) (r : Rg) : Prop where
  st : Store W M
  tr : TreeAt W M p l F
  bt : W.heap[bt]? = some (.cells #[.pointer (some ⟨p, 0, none⟩)] 49 (0, 0))
  br : W.heap[br]? = some (.cells #[.string r.f, .string r.t, .bool r.hf, .bool r.ht, .bool r.pf, .bool r.pt] 28 (0, 0))
/-- What a round must keep. -/
def KpT (M : Nat → Option Nd) (p bt br : Nat) (W W' : World) : Prop := ∀ k, (Own M k ∨ k = p ∨ k = bt ∨ k = br) → W'.heap[k]? = W.heap[k]?
theorem kpT_t {M : Nat → Option Nd} {p bt br : Nat} {A B C : World} (h : KpT M p bt br A B) (k : KpT M p bt br B C) : KpT M p bt br A C := fun q hq => (k q hq).trans (h q hq)
theorem Tr.lts {W : World} {M : Nat → Option Nd} {p : Nat} {l : List It} {F : Nat → Prop} {bt br : Nat} {r : Rg} (h : Tr W M p l F bt br r) : ∀ k, (Own M k ∨ k = p ∨ k = bt ∨ k = br) → k < W.heap.size := by
  rintro k (q | rfl | rfl | rfl)
  · exact h.st.lt q
  · exact h.tr.lt
  · exact blk_lt h.bt
  · exact blk_lt h.br
theorem Tr.kp {W W' : World} {M : Nat → Option Nd} {p : Nat} {l : List It} {F : Nat → Prop} {bt br : Nat} {r : Rg} (h : Tr W M p l F bt br r) (k : KpT M p bt br W W') : Tr W' M p l F bt br r := by
  have hp := k p (.inr (.inl rfl))
  exact ⟨h.st.keep fun q hq => k q (.inl hq), ⟨h.tr.srt, h.tr.own, h.tr.root.imp (fun ⟨a, b, c⟩ => ⟨a, b, hp.trans c⟩) (fun ⟨a, b, c, d, e⟩ => ⟨a, b, c, d, hp.trans e⟩)⟩, (k bt (.inr (.inr (.inl rfl)))).trans h.bt, (k br (.inr (.inr (.inr rfl)))).trans h.br⟩
theorem Tr.on {W W' : World} {M : Nat → Option Nd} {p : Nat} {l : List It} {F : Nat → Prop} {bt br : Nat} {r : Rg} (h : Tr W M p l F bt br r) (hb : Below W.heap.size W W') : Tr W' M p l F bt br r := h.kp fun k hk => hb.block k (h.lts k hk)
theorem Tr.cells {W : World} {M : Nat → Option Nd} {p : Nat} {l : List It} {F : Nat → Prop} {bt br : Nat} {r : Rg} (h : Tr W M p l F bt br r) : W.cell? ⟨bt, 0, none⟩ = some (.pointer (some ⟨p, 0, none⟩)) ∧ W.cell? ⟨br, 0, none⟩ = some (.string r.f) ∧ W.cell? ⟨br, 1, none⟩ = some (.string r.t) ∧ W.cell? ⟨br, 2, none⟩ = some (.bool r.hf) ∧ W.cell? ⟨br, 3, none⟩ = some (.bool r.ht) ∧ W.cell? ⟨br, 4, none⟩ = some (.bool r.pf) ∧ W.cell? ⟨br, 5, none⟩ = some (.bool r.pt) :=
  ⟨cell_of h.bt rfl, cell_of h.br rfl, cell_of h.br rfl, cell_of h.br rfl, cell_of h.br rfl, cell_of h.br rfl, cell_of h.br rfl⟩
theorem abides_below {β : Type} {B : Nat} {J : β → World → Prop} (h : AbidesFrom B J) {s : β} {W W' : World} (hs : J s W) (hb : Below W.heap.size W W') : J s W' := h s W W' none hs ⟨hb.os, hb.tape, hb.output, hb.size, fun k hk _ => hb.block k hk⟩ (fun r e => by cases e)
def encI (x : It) : Array Value := #[.string x.1, .slice x.2.a x.2.n x.2.c]
set_option maxRecDepth 100000 in
set_option maxHeartbeats 2000000 in
theorem all1_in (n : Nat) (hn : 1 ≤ n) (ly : Nat) {M : Nat → Option Nd} {p : Nat} {l : List It} {F : Nat → Prop} {bt br : Nat} {r : Rg} (J Jx : List It → World → Prop)
    (hY : ∀ pre x W, x ∈ l → J pre W → pre.length < l.length → YieldAt Fence.wide (n - 1) Tryz.prog ly (encI x) W fun e W' => (e = .returned (.bool true) ∧ J (pre ++ [x]) W' ∧ KpT M p bt br W W') ∨ (e = .returned (.bool false) ∧ Jx (pre ++ [x]) W'))
    (W : World) (hJ : AbidesFrom W.heap.size J) (hT : Tr W M p l F bt br r) (h0 : J [] W) :
    CallsIn Fence.wide n Tryz.prog 43 #[.func (.yield ly) #[] #[], .pointer (some ⟨bt, 0, none⟩), .pointer (some ⟨br, 0, none⟩)] W fun e W' => (∃ v, e = .returned v) ∧ ((∃ ys, ys = selR r l ∧ J ys W') ∨ (∃ pre, pre <+: selR r l ∧ Jx pre W')) := by
  have hS := hT.tr.srt
  obtain ⟨j0, e0, hFo0, hnil⟩ := fo_start hS r
  obtain ⟨t1, t2, b, e1, hcur⟩ := tell_parts (lstO r l)
  have HL : Hid (Calls Tryz.prog 44 #[.pointer (some ⟨p, 0, none⟩), rgV r] W fun e w' => e = .returned (.tuple #[.string t1, .slice t2.a t2.n t2.c, .bool b]) ∧ Below W.heap.size W w') := by
    have := least_ hT.st hT.tr r
    rw [e1] at this
    exact this
  rw [e0] at hcur
  obtain ⟨c0, c1, c2, c3, c4, c5, c6⟩ := hT.cells
  have HT := Lib.hid hT
  have HJ := Lib.hid hJ
  have HJ0 : Hid (J (selR r (l.take j0)) W) := by rw [hnil]; exact h0
  have HFo := Lib.hid hFo0
  have HS := Lib.hid hS
  have HCur := Lib.hid hcur
  clear hT hJ h0 hFo0 hS hcur hnil e0 e1
  unfold rgV at *
  refine callsIn_of_wp Tryz.func43 rfl (wide_fn _) ?_ wide_round
  simp only [Tryz.ntmps43, List.size_toArray, List.length_cons, List.length_nil, Nat.reduceAdd, Nat.reduceSub, Array.replicate_succ, Array.replicate_zero, List.push_toArray, List.append_toArray, List.nil_append, List.cons_append]
  gi_wp2
  refine ⟨wide_fn _, (callsIn_wide.2 HL.out).mono ?_⟩
  rintro e W1 ⟨rfl, hb1⟩
  have HT1 := Lib.hid (HT.out.on hb1)
  have HJ1 := Lib.hid (abides_below HJ.out HJ0.out hb1)
  clear hb1 HL HT HJ0 c0 c1 c2 c3 c4 c5 c6
  gi_wp2
  gi_loopg [4, 5, 6] (l.length - j0) (fun kx v1 v2 v3 wr => ∃ j t1 t2 b, l.length - j ≤ kx ∧ v1 = .string t1 ∧ v2 = .slice t2.a t2.n t2.c ∧ v3 = .bool b ∧ Hid ((l[j]? = none ∧ b = false) ∨ ∃ x : It, l[j]? = some x ∧ t1 = x.1 ∧ t2 = x.2 ∧ b = true) ∧ Hid (Fo r l j) ∧ Hid (J (selR r (l.take j)) wr) ∧ Hid (Tr wr M p l F bt br r))
  case atStart => exact ⟨j0, t1, t2, b, Nat.le_refl _, rfl, rfl, rfl, HCur, HFo, HJ1, HT1⟩
  case round =>
    clear HCur HFo HJ1 HT1
    obtain ⟨j, t1, t2, b, hk, rfl, rfl, rfl, HC, HFo, HJj, HT⟩ := hrel
    obtain ⟨c0, c1, c2, c3, c4, c5, c6⟩ := HT.out.cells
    rcases HC.out with ⟨hnone, rfl⟩ | ⟨x, hx, rfl, rfl, rfl⟩
    · have hjl : l.length ≤ j := List.getElem?_eq_none_iff.1 hnone
      have HE : Hid (selR r (l.take j) = selR r l) := by show _ = _; rw [List.take_of_length_le hjl]
      clear hnone HC
      gi_wp2
      refine ⟨wide_fn _, ?_⟩
      gi_wp2
      refine ⟨fun f _ => wide_fn f, ?_⟩
      gi_wp2
      go_end0
      exact ⟨⟨_, rfl⟩, .inl ⟨_, rfl, by rw [← HE.out]; exact HJj.out⟩⟩
    · have hjl := (List.getElem?_eq_some_iff.1 hx).1
      have HX := Lib.hid hx
      have HA := Lib.hid (ahd_ r x.1)
      clear hx HC
      cases hah : ahdR r x.1 with
      | false =>
        rw [hah] at HA
        unfold rgV at HA
        have HE := Lib.hid (Fo.stop (r := r) HS.out HX.out hah)
        clear hah
        gi_wp2
        refine ⟨wide_fn _, (callsIn_wide.2 (HA.out wr)).mono ?_⟩
        rintro e W2 ⟨rfl, hb2⟩
        have HJ2 := Lib.hid (abides_below HJ.out HJj.out hb2)
        clear hb2
        gi_wp2
        refine ⟨fun f _ => wide_fn f, ?_⟩
        gi_wp2
        go_end0
        exact ⟨⟨_, rfl⟩, .inl ⟨_, rfl, by rw [← HE.out]; exact HJ2.out⟩⟩
      | true =>
        rw [hah] at HA
        unfold rgV at HA
        have HH := Lib.hid (HFo.out.here HX.out hah)
        clear hah
        gi_wp2
        refine ⟨wide_fn _, (callsIn_wide.2 (HA.out wr)).mono ?_⟩
        rintro e W2 ⟨rfl, hb2⟩
        have HT2 := Lib.hid (HT.out.on hb2)
        have hJ2 := abides_below HJ.out HJj.out hb2
        have hple : (selR r (l.take j)).length < l.length := Nat.lt_of_le_of_lt (List.length_filter_le _ _) (by rw [List.length_take]; omega)
        obtain ⟨fn, tmps, assign, body, hy, hR⟩ := hY (selR r (l.take j)) x W2 (List.mem_of_getElem? HX.out) hJ2 hple
        unfold encI at hy
        have HR := Lib.hid hR
        have HSn : Hid (selR r (l.take (j + 1)) = selR r (l.take j) ++ [x]) := by show _ = _; rw [sel_snoc HX.out, if_pos HH.out]
        clear hR hJ2 hb2 HT HJj hple c0 c1 c2 c3 c4 c5 c6
        gi_wp2
        refine HR.out.mono ?_
        rintro e W3 (⟨rfl, hJ3, hk3⟩ | ⟨rfl, hJx3⟩)
        · have HT3 := Lib.hid (HT2.out.kp hk3)
          obtain ⟨t1, t2, b, e1, hcur⟩ := tell_parts (l.find? (frP x.1 true))
          have HN : Hid (Calls Tryz.prog 46 #[.pointer (some ⟨p, 0, none⟩), .string x.1, .bool true] W3 fun e w' => e = .returned (.tuple #[.string t1, .slice t2.a t2.n t2.c, .bool b]) ∧ Below W3.heap.size W3 w') := by
            have := tfrom_ HT3.out.st HT3.out.tr x.1 true
            rw [e1] at this
            exact this
          rw [next_at HS.out HX.out] at hcur
          have HCur := Lib.hid hcur
          have HJ3 := Lib.hid hJ3
          obtain ⟨c0, c1, c2, c3, c4, c5, c6⟩ := HT3.out.cells
          clear hJ3 hk3 HR hy hcur e1 HT2
          gi_wp2
          refine ⟨wide_fn _, (callsIn_wide.2 HN.out).mono ?_⟩
          rintro e W4 ⟨rfl, hb4⟩
          have HT4 := Lib.hid (HT3.out.on hb4)
          have HJ4 : Hid (J (selR r (l.take (j + 1))) W4) := by rw [HSn.out]; exact abides_below HJ.out HJ3.out hb4
          clear hb4 HN HT3 HJ3 c0 c1 c2 c3 c4 c5 c6
          gi_wp2
          gi_roundg (l.length - (j + 1))
          case measure => omega
          case rel => exact ⟨j + 1, t1, t2, b, Nat.le_refl _, rfl, rfl, rfl, HCur, HFo.out.step HX.out, HJ4, HT4⟩
        · have HJ3 := Lib.hid hJx3
          clear hJx3 HR
          gi_wp2
          go_end0
          exact ⟨⟨_, rfl⟩, .inr ⟨_, by rw [← HSn.out]; exact sel_pre r l (j + 1), HJ3.out⟩⟩
theorem all_stops (n : Nat) (hn : 1 ≤ n) {M : Nat → Option Nd} {p : Nat} {l : List It} {F : Nat → Prop} {bt br : Nat} {r : Rg} {w : World} (hT : Tr w M p l F bt br r) :
    SeqStopsK Fence.wide n Tryz.prog 43 #[.pointer (some ⟨bt, 0, none⟩), .pointer (some ⟨br, 0, none⟩)] encI (KpT M p bt br) (fun ys => ys = selR r l) (fun pre => pre <+: selR r l) l.length w := fun ly J Jx W hW hJ _ hY h0 =>
  all1_in n hn ly J Jx (fun pre x W _ => hY pre x W) W hJ (hT.on hW) h0
/-- The same, where a round is asked for the items of the list alone. -/
def encS {l : List It} (x : { x : It // x ∈ l }) : Array Value := encI x.1
theorem all_stopsS (n : Nat) (hn : 1 ≤ n) {M : Nat → Option Nd} {p : Nat} {l : List It} {F : Nat → Prop} {bt br : Nat} {r : Rg} {w : World} (hT : Tr w M p l F bt br r) :
    SeqStopsK Fence.wide n Tryz.prog 43 #[.pointer (some ⟨bt, 0, none⟩), .pointer (some ⟨br, 0, none⟩)] (encS (l := l)) (KpT M p bt br) (fun ys => ys.map (·.1) = selR r l) (fun pre => pre.map (·.1) <+: selR r l) l.length w := fun ly J Jx W hW hJ hJx hY h0 => by
  refine (all1_in (M := M) (l := l) n hn ly (fun pre W => ∃ q : List { x : It // x ∈ l }, q.map (·.1) = pre ∧ J q W) (fun pre W => ∃ q : List { x : It // x ∈ l }, q.map (·.1) = pre ∧ Jx q W) (fun pre x W hx hp hlen => ?_) W (fun pre A B row ⟨q, e, hq⟩ hg hr => ⟨q, e, hJ q A B row hq hg hr⟩) (hT.on hW) ⟨[], rfl, h0⟩).mono ?_
  · obtain ⟨q, rfl, hq⟩ := hp
    have hlen' : q.length < l.length := by simpa using hlen
    refine (hY q ⟨x, hx⟩ W hq hlen').mono ?_
    rintro e W' (⟨e1, e2, e3⟩ | ⟨e1, e2⟩)
    · exact .inl ⟨e1, ⟨q ++ [⟨x, hx⟩], by simp, e2⟩, e3⟩
    · exact .inr ⟨e1, ⟨q ++ [⟨x, hx⟩], by simp, e2⟩⟩
  · rintro e W' ⟨h1, ⟨ys, h2, q, h3, h4⟩ | ⟨pre, h2, q, h3, h4⟩⟩
    · exact ⟨h1, .inl ⟨q, h3.trans h2, h4⟩⟩
    · exact ⟨h1, .inr ⟨q, by show List.map _ q <+: _; rw [h3]; exact h2, h4⟩⟩
set_option maxHeartbeats 1000000 in
theorem all_ (p : Nat) (r : Rg) (w : World) :
    Calls Tryz.prog 27 #[.pointer (some ⟨p, 0, none⟩), rgV r] w fun e w' => e = .returned (.func (.func 43) #[] #[.pointer (some ⟨w.heap.size, 0, none⟩), .pointer (some ⟨w.heap.size + 1, 0, none⟩)]) ∧ w' = (w.alloc (.cells #[.pointer (some ⟨p, 0, none⟩)] 49)).alloc (.cells #[.string r.f, .string r.t, .bool r.hf, .bool r.ht, .bool r.pf, .bool r.pt] 28) := by
  unfold rgV
  go_enter Tryz.func27, Tryz.ntmps27
  go_wp2_with fail
  go_ret
  exact ⟨rfl, rfl⟩
end Go.Proofs.YtagamkahfiackaaGreatDoor
