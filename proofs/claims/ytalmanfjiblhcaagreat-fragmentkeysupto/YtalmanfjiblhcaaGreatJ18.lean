/- Going down from node to node; Tree.Get; A store in memory: a tree, and a chain of its own at each key; What a chain with one version more leaves, beside the tree; the tree behind it. -/
import Derived.Test.YtalmanfjiblhcaaGreatJ17
import Derived.Test.YtalmanfjiblhcaaGreatJ15
import Derived.Test.YtalmanfjiblhcaaGreatJ16
namespace Go.Proofs.YtalmanfjiblhcaaGreat
open Go.RowKit Go.Sort
def At (M : Nat → Option Nd) (kx : Nat) (v : Value) (l : List It) : Prop := (v = .pointer none ∧ l = []) ∨ ∃ h q F, h < kx ∧ v = .pointer (some ⟨q, 0, none⟩) ∧ Nod M (h + 1) 1 7 q l F ∧ Srt l
structure Cut (M : Nat → Option Nd) (h q : Nat) (n : Nd) (l : List It) (A B : List It) (v : Value) (lk : List It) : Prop where
 next : At M h v lk
 child : ∀ V, Store V M → Calls Tryz.prog 98 #[.pointer (some ⟨q, 0, none⟩), .int .i64 A.length] V fun e w' => e = .returned v ∧ w' = V
 parts : (l = A ++ B ∧ lk = []) ∨ ∃ L1 L2, A.length = L1.length ∧ B.length = L2.length ∧ l = pre A L1 ++ (lk ++ suf B L2)
theorem cut_ {M : Nat → Option Nd} {h m q : Nat} {l : List It} {F : Nat → Prop} (hN : Nod M (h + 1) m 7 q l F) (hs : Srt l) : ∃ n, M q = some n ∧ m ≤ n.its.length ∧ n.its.length ≤ 7 ∧ Srt n.its ∧ ∀ A B, n.its = A ++ B → ∃ v lk, Cut M h q n l A B v lk := by
 obtain ⟨n, ls, Fk, h1, h2, h3, h4, h5, h6, rfl, h8, h9⟩ := hN
 refine ⟨n, h1, h2, h3, hs.items, fun A B hAB => ?_⟩
 cases h with
 | zero =>
   have hks := h4 rfl
   rw [hks] at h6
   obtain ⟨rfl, hno⟩ := h6.nil
   rw [weave_nil] at hs ⊢
   exact ⟨.pointer none, [], .inl ⟨rfl, rfl⟩, fun V hV => child_none hV h1 hks _, .inl ⟨hAB, rfl⟩⟩
 | succ h =>
   have hks := h5 (by omega)
   have hll := h6.len
   have hl : n.its.length = A.length + B.length := by rw [hAB]; simp
   obtain ⟨K1, p, K2, hK, hK1, hK2⟩ : ∃ K1 p K2, n.ks = K1 ++ p :: K2 ∧ K1.length = A.length ∧ K2.length = B.length := by
    refine ⟨n.ks.take A.length, n.ks[A.length], n.ks.drop (A.length + 1), ?_, by rw [List.length_take]; omega, by rw [List.length_drop]; omega⟩
    rw [← List.drop_eq_getElem_cons, List.take_append_drop]
   rw [hK] at h6
   obtain ⟨L1, lp, L2, F1, Fp, F2, rfl, k1, kp, k2, _⟩ := h6.at
   have l1 := k1.len
   have l2 := k2.len
   have hw : weave n.its (L1 ++ lp :: L2) = pre A L1 ++ (lp ++ suf B L2) := by rw [hAB]; exact weave_at A B L1 lp L2 (by omega) (by omega)
   rw [hw] at hs ⊢
   have hsp := (List.pairwise_append.1 (List.pairwise_append.1 hs).2.1).1
   refine ⟨.pointer (some ⟨p, 0, none⟩), lp, .inr ⟨h, p, Fp, by omega, rfl, kp.wide (by omega) (Nat.le_refl _), hsp⟩, fun V hV => ?_, .inr ⟨L1, L2, by omega, by omega, rfl⟩⟩
   have := child_at hV h1 hK
   rw [hK1] at this
   exact this
theorem Cut.first {P : It → Bool} (hP : Up P) {M : Nat → Option Nd} {h q : Nat} {n : Nd} {l A B lk : List It} {v : Value} (c : Cut M h q n l A B v lk) (hs : Srt l) (hA : ∀ x ∈ A, P x = false) (hB : ∀ x ∈ B, P x = true) : l.find? P = (lk.find? P).or B.head? := by
 rcases c.parts with ⟨rfl, rfl⟩ | ⟨L1, L2, e1, e2, rfl⟩
 · exact from_leaf hA hB
 · exact from_inner hP hs hA hB e2
theorem Cut.last {P : It → Bool} (hP : Dn P) {M : Nat → Option Nd} {h q : Nat} {n : Nd} {l A B lk : List It} {v : Value} (c : Cut M h q n l A B v lk) (hs : Srt l) (hA : ∀ x ∈ A, P x = true) (hB : ∀ x ∈ B, P x = false) : lastL P l = (lastL P lk).or A.getLast? := by
 rcases c.parts with ⟨rfl, rfl⟩ | ⟨L1, L2, e1, e2, rfl⟩
 · exact to_leaf hA hB
 · exact to_inner hP hs hA hB e1
theorem Cut.mid {M : Nat → Option Nd} {h q : Nat} {n : Nd} {l A B lk : List It} {v : Value} {x : It} (c : Cut M h q n l A (x :: B) v lk) : ∃ P S, l = P ++ x :: S := by
 rcases c.parts with ⟨rfl, _⟩ | ⟨L1, L2, e1, e2, rfl⟩
 · exact ⟨A, B, rfl⟩
 · cases L2 with
   | nil => simp at e2
   | cons m L2 => exact ⟨pre A L1 ++ lk, m ++ suf B L2, by simp [suf]⟩
theorem TreeAt.top {w : World} {M : Nat → Option Nd} {p : Nat} {l : List It} {F : Nat → Prop} (h : TreeAt w M p l F) : ∃ kx v, At M kx v l ∧ Calls Tryz.prog 96 #[.pointer (some ⟨p, 0, none⟩)] w fun e w' => e = .returned v ∧ w' = w := by
 rcases h.root with ⟨rfl, _, hp⟩ | ⟨hh, q, _, hN, hp⟩
 · exact ⟨0, _, .inl ⟨rfl, rfl⟩, top_ rfl hp⟩
 · exact ⟨hh + 1, _, .inr ⟨hh, q, F, by omega, rfl, hN, h.srt⟩, top_ rfl hp⟩
theorem At.up {M : Nat → Option Nd} {k k' : Nat} {v : Value} {l : List It} (h : At M k v l) (hk : k ≤ k') : At M k' v l :=
 h.imp id fun ⟨a, b, c, d, e⟩ => ⟨a, b, c, by omega, e⟩
end Go.Proofs.YtalmanfjiblhcaaGreat
namespace Go.Proofs.YtalmanfjiblhcaaGreat
open Go.RowKit Go.Sort
theorem Cut.get {M : Nat → Option Nd} {h q : Nat} {n : Nd} {l A B lk : List It} {v : Value} {k : ByteArray} (c : Cut M h q n l A B v lk) (hs : Srt l) (hA : ∀ x ∈ A, ltb x.1 k = true) (hB : ∀ x ∈ B, ltb k x.1 = true) : YtalmanfjiblhcaaGreat.get k l = YtalmanfjiblhcaaGreat.get k lk := by
 rcases c.parts with ⟨rfl, rfl⟩ | ⟨L1, L2, e1, e2, rfl⟩
 · rw [get_new hA hB]; rfl
 · have hp := List.pairwise_append.1 hs
   have hq := List.pairwise_append.1 hp.2.1
   exact get_mid (pre_lt A L1 hp.1 hA) (suf_gt B L2 hq.2.1 hB)
set_option maxRecDepth 100000 in
set_option maxHeartbeats 2000000 in
theorem tget_ {w : World} {M : Nat → Option Nd} {p : Nat} {l : List It} {F : Nat → Prop} (hs : Store w M) (ht : TreeAt w M p l F) (k : ByteArray) :
 Calls Tryz.prog 61 #[.pointer (some ⟨p, 0, none⟩), .string k] w fun e w' => e = .returned (.tuple #[.slice ((get k l).getD vz).a ((get k l).getD vz).n ((get k l).getD vz).c, .bool (get k l).isSome]) ∧ Below w.heap.size w w' := by
 obtain ⟨kx0, v0, hat, htop⟩ := ht.top
 have HT := Lib.hid htop
 have HS := Lib.hid hs
 have HA0 := Lib.hid hat
 obtain ⟨ans, hans⟩ : ∃ ans, ans = get k l := ⟨_, rfl⟩
 have HANS := Lib.hid hans
 rw [← hans]
 have HB0 := Lib.hid (Below.refl w.heap.size w)
 clear hans htop hat hs ht
 go_enter Tryz.func61, Tryz.ntmps61
 go_wp2_with (first | (go_at_call 96; refine HT.out.mono ?_; rintro e w1 ⟨rfl, rfl⟩) | fail)
 rename World => w
 go_loopg [6] kx0 (fun kx s10 wr => ∃ lq, ((s10 = .pointer none ∧ Hid (lq = [])) ∨ ∃ h q F, h < kx ∧ s10 = .pointer (some ⟨q, 0, none⟩) ∧ Hid (Nod M (h + 1) 1 7 q lq F ∧ Srt lq)) ∧ Hid (Below w.heap.size w wr) ∧ Hid (get k lq = ans))
 case atStart => exact ⟨l, HA0.out, HB0, HANS.out.symm⟩
 case round =>
  clear HB0 HANS HA0
  obtain ⟨lq, hcase, HB, HI⟩ := hrel
  rcases hcase with ⟨rfl, HL⟩ | ⟨h, q, F', hh, rfl, HN⟩
  · have HO : Hid (ans = none) := by have := HI.out; rw [HL.out] at this; exact this.symm
    clear HI HL HT
    go_wp2_with fail
    go_ret2
    exact ⟨by rw [HO.out]; rfl, HB.out⟩
  · obtain ⟨n, hq, hm1, hm7, hsi, hcut⟩ := cut_ HN.out.1 HN.out.2
    have hsr := HS.out.on HB.out
    rcases about hsi k with ⟨I1, u, I3, hy⟩ | ⟨I1, I2, hy⟩
    · obtain ⟨g, c, hiv, _⟩ := hsr.item hq hy.eq
      have HC : Hid (∀ V, Below wr.heap.size wr V → V.cell? ⟨q, 0, none⟩ = some (.slice (some ⟨g, 0, none⟩) (I1.length + I3.length + 1) c) ∧ V.cell? ⟨g, I1.length * 2 + 1, none⟩ = some (.slice u.a u.n u.c)) := fun V hV => by
       obtain ⟨g', c', e1, _, _, t2, _⟩ := (hsr.on hV).item hq hy.eq
       rw [hiv] at e1
       simp only [Value.slice.injEq, Option.some.injEq, Addr.mk.injEq] at e1
       obtain ⟨⟨rfl, _⟩, _⟩ := e1
       exact ⟨by rw [((hsr.on hV).cells hq).1, hiv], t2⟩
      have HFd : Hid (Calls Tryz.prog 97 #[.pointer (some ⟨q, 0, none⟩), .string k] wr fun e w' => e = .returned (.tuple #[.int .i64 I1.length, .bool true]) ∧ Hid (Below wr.heap.size wr w')) := find_yes hsr hq hsi (by omega) hy
      have HO : Hid (ans = some u) := by
       obtain ⟨v2, lk, hc⟩ := hcut I1 ((k, u) :: I3) hy.eq
       obtain ⟨PP, SS, e⟩ := hc.mid
       have hsl := HN.out.2
       rw [e] at hsl
       show _ = _
       rw [← HI.out, e, get_at hsl.about_mid.1]
      clear hy hcut hsr hiv hq hsi HI HN HT hm1 hm7
      generalize I1.length = i1 at *
      generalize I3.length = i3 at *
      have hlt : (i1 : Int) < (i1 : Int) + (i3 : Int) + 1 := by omega
      go_wp2_with (first
       | (go_at_call 97; refine HFd.out.mono ?_; rintro e w2 ⟨rfl, HB2⟩; obtain ⟨d0, d1⟩ := HC.out _ HB2.out)
       | fail)
      go_ret2
      exact ⟨by rw [HO.out]; rfl, below_step HB.out HB2.out⟩
    · obtain ⟨v2, lk, hc⟩ := hcut I1 I2 hy.eq
      have HFd : Hid (Calls Tryz.prog 97 #[.pointer (some ⟨q, 0, none⟩), .string k] wr fun e w' => e = .returned (.tuple #[.int .i64 I1.length, .bool false]) ∧ Hid (Below wr.heap.size wr w')) := find_not hsr hq hsi (by omega) hy
      have HCh : Hid (∀ V, Below wr.heap.size wr V → Calls Tryz.prog 98 #[.pointer (some ⟨q, 0, none⟩), .int .i64 I1.length] V fun e w' => e = .returned v2 ∧ w' = V) := fun V hV => hc.child V (hsr.on hV)
      have HNx : Hid (get k lk = ans) := by show _ = _; rw [← HI.out]; exact (hc.get HN.out.2 hy.lo hy.hi).symm
      have HAt := Lib.hid hc.next
      clear hy hcut hsr hq hsi hc HI HN HT hm1 hm7
      generalize I1.length = i1 at *
      go_wp2_with (first
       | (go_at_call 97; refine HFd.out.mono ?_; rintro e w2 ⟨rfl, HB2⟩)
       | (go_at_call 98; refine (HCh.out _ HB2.out).mono ?_; rintro e w3 ⟨rfl, rfl⟩)
       | fail)
      rcases HAt.out with ⟨rfl, hl0⟩ | ⟨h', q', F2, hh', rfl, hN'⟩
      · go_roundg h
        case measure => omega
        case rel => exact ⟨lk, .inl ⟨rfl, hl0⟩, below_step HB.out HB2.out, HNx⟩
      · go_roundg h
        case measure => omega
        case rel => exact ⟨lk, .inr ⟨h', q', F2, by omega, rfl, hN'⟩, below_step HB.out HB2.out, HNx⟩
end Go.Proofs.YtalmanfjiblhcaaGreat
namespace Go.Proofs.YtalmanfjiblhcaaGreat
open Go.RowKit Go.Sort
def ctV (rd : Nat → List MV) (v : Vl) : List MV := match v.a with
 | some ad => rd ad.block
 | none => []
def fV (rd : Nat → List MV) (v : Vl) : List PV := pvs (ctV rd v)
def mdl (rd : Nat → List MV) (l : List It) : List Ct := mapV (fV rd) l
structure ChAt (w : World) (B : Nat → Prop) (v : Vl) (L : List MV) : Prop where
 row : RowV w (.slice v.a v.n v.c) L
 lo : ∀ g, v.a = some ⟨g, 0, none⟩ → ¬ B g
 rows : ∀ y ∈ L, RowAt w y.r y.v.tx
structure Chs (w : World) (B : Nat → Prop) (rd : Nat → List MV) (l : List It) : Prop where
 at' : ∀ x ∈ l, ∃ g, x.2.a = some ⟨g, 0, none⟩ ∧ ChAt w B x.2 (rd g)
 ap : ∀ x ∈ l, ∀ y ∈ l, x.2.a = y.2.a → x.1 = y.1
theorem ChAt.blk {w : World} {B : Nat → Prop} {v : Vl} {L : List MV} (h : ChAt w B v L) {g : Nat} (hg : v.a = some ⟨g, 0, none⟩) : ∃ cur, w.heap[g]? = some (.cells cur 178 (0, 0)) := row_block h.row (by rw [hg]; rfl)
theorem ChAt.keep {w w' : World} {B : Nat → Prop} {v : Vl} {L : List MV} (h : ChAt w B v L) (h1 : ∀ g : Nat, v.a = some ⟨g, 0, none⟩ → w'.heap[g]? = w.heap[g]?) (h2 : ∀ (g : Nat) (cur : Array Value), w.heap[g]? = some (.cells cur 5 (0, 0)) → w'.heap[g]? = w.heap[g]?) : ChAt w' B v L := by
 refine ⟨row_keep h.row fun g hg => ?_, h.lo, fun y hy => (h.rows y hy).keep fun g hg => ?_⟩
 · obtain ⟨a, c, e, _, h3, _⟩ := row_shape h.row
   simp only [Value.slice.injEq] at e
   cases ha : v.a with
   | none => rw [ha] at hg; cases hg
   | some ad =>
     obtain ⟨g', e'⟩ := h3 ad (by rw [← e.1, ha])
     rw [ha, e'] at hg
     simp only [Value.ownBlock, Option.some.injEq] at hg
     subst hg
     exact h1 g' (by rw [ha, e'])
 · obtain ⟨cur, hc⟩ := (h.rows y hy).blk hg
   exact h2 g cur hc
theorem Chs.keep {w w' : World} {B : Nat → Prop} {rd : Nat → List MV} {l : List It} (h : Chs w B rd l) (h1 : ∀ (g : Nat) (cur : Array Value), w.heap[g]? = some (.cells cur 178 (0, 0)) → w'.heap[g]? = w.heap[g]?) (h2 : ∀ (g : Nat) (cur : Array Value), w.heap[g]? = some (.cells cur 5 (0, 0)) → w'.heap[g]? = w.heap[g]?) : Chs w' B rd l :=
 ⟨fun x hx => by
  obtain ⟨g, e, hc⟩ := h.at' x hx
  exact ⟨g, e, hc.keep (fun g' hg' => by obtain ⟨cur, hb⟩ := hc.blk hg'; exact h1 g' cur hb) h2⟩, h.ap⟩
theorem Chs.on {w w' : World} {B : Nat → Prop} {rd : Nat → List MV} {l : List It} (h : Chs w B rd l) (hb : Below w.heap.size w w') : Chs w' B rd l := h.keep (fun g _ hg => hb.block g (blk_lt hg)) (fun g _ hg => hb.block g (blk_lt hg))
structure VnD (W : Zn) (w : World) (ps p : Nat) (M : Nat → Option Nd) (F : Nat → Prop) (l : List It) (rd : Nat → List MV) : Prop where
 wk : Works W w M
 tr : TreeAt w M p l F
 lp : ¬ W.S p
 ls : ¬ W.S ps
 bs : w.heap[ps]? = some (.cells #[.pointer (some ⟨p, 0, none⟩)] 176 (0, 0))
 ch : Chs w W.S rd l
structure VnAt (W : Zn) (w : World) (ps : Nat) (m : List Ct) : Prop where
 ex : ∃ p M F l rd, VnD W w ps p M F l rd ∧ m = mdl rd l
 ok : OkM m
theorem VnD.on {W : Zn} {w w' : World} {ps p : Nat} {M : Nat → Option Nd} {F : Nat → Prop} {l : List It} {rd : Nat → List MV} (h : VnD W w ps p M F l rd) (hb : Below w.heap.size w w') : VnD W w' ps p M F l rd :=
 ⟨h.wk.on hb, h.tr.on hb, h.lp, h.ls, (hb.block ps (blk_lt h.bs)).trans h.bs, h.ch.on hb⟩
theorem VnAt.on {W : Zn} {w w' : World} {ps : Nat} {m : List Ct} (h : VnAt W w ps m) (hb : Below w.heap.size w w') : VnAt W w' ps m := by
 obtain ⟨p, M, F, l, rd, hd, e⟩ := h.ex
 exact ⟨⟨p, M, F, l, rd, hd.on hb, e⟩, h.ok⟩
theorem VnAt.below {W : Zn} {w : World} {ps : Nat} {m : List Ct} (h : VnAt W w ps m) : Since W w := by
 obtain ⟨p, M, F, l, rd, hd, e⟩ := h.ex
 exact hd.wk.below
theorem VnD.chain {W : Zn} {w : World} {ps p : Nat} {M : Nat → Option Nd} {F : Nat → Prop} {l : List It} {rd : Nat → List MV} (h : VnD W w ps p M F l rd) (k : ByteArray) : ∃ L, ChAt w W.S ((get k l).getD vz) L ∧ pvs L = chM k (mdl rd l) ∧ L = ctV rd ((get k l).getD vz) := by
 unfold chM mdl
 rw [mapV_get]
 cases e : get k l with
 | none => exact ⟨[], ⟨World.ownsRow_nil _ _ _ _, fun g hg => (by cases hg), fun y hy => (by cases hy)⟩, rfl, rfl⟩
 | some v =>
   obtain ⟨g, e1, hc⟩ := h.ch.at' (k, v) (get_mem e)
   simp only at e1 hc
   refine ⟨rd g, hc, ?_, ?_⟩
   · simp [fV, ctV, e1]
   · simp [ctV, e1]
theorem mdl_len (rd : Nat → List MV) (l : List It) : (mdl rd l).length = l.length := by simp [mdl, mapV]
set_option maxRecDepth 100000 in
theorem kept_ {w : World} {ps p : Nat} (hb : w.heap[ps]? = some (.cells #[.pointer (some ⟨p, 0, none⟩)] 176 (0, 0))) : Calls Tryz.prog 60 #[.pointer (some ⟨ps, 0, none⟩)] w fun e w' => e = .returned (.pointer (some ⟨p, 0, none⟩)) ∧ w' = w := by
 have c0 := cell_of (o := 0) hb rfl
 clear hb
 go_enter Tryz.func60, Tryz.ntmps60
 go_wp2_with fail
 go_ret
 exact ⟨rfl, rfl⟩
theorem vnew_ (w : World) : Calls Tryz.prog 47 #[] w fun e w' => ∃ ps, e = .returned (.pointer (some ⟨ps, 0, none⟩)) ∧ Hid (VnAt (Zn.all w) w' ps [] ∧ w.heap.size ≤ ps) := by
 have HN := Lib.hid (new_ w)
 go_enter Tryz.func47, Tryz.ntmps47
 go_wp2_with (first | (go_at_call 77; refine HN.out.mono ?_; rintro e w' ⟨rfl, rfl⟩) | fail)
 go_ret
 refine ⟨_, rfl, ⟨⟨⟨w.heap.size, fun _ => none, fun _ => False, [], fun _ => [], ?_, rfl⟩, ok_nil⟩, by simp [go_sem]⟩⟩
 have h := new_tree (empty_store w)
 have hB := below_alloc w (.cells #[.pointer none, .int .i64 0] 215)
 have hB2 := below_alloc (w.alloc (.cells #[.pointer none, .int .i64 0] 215)) (.cells #[.pointer (some ⟨w.heap.size, 0, none⟩)] 176)
 refine ⟨((Works.start w).on hB).on hB2, h.2.on hB2, Nat.lt_irrefl _, fun h => absurd (show w.heap.size + 1 < w.heap.size by simpa [go_sem, Zn.all] using h) (by omega), ?_, fun x hx => (by cases hx), fun x hx => (by cases hx)⟩
 have := new_blk (w.alloc (.cells #[.pointer none, .int .i64 0] 215)) (.cells #[.pointer (some ⟨w.heap.size, 0, none⟩)] 176)
 simpa [go_sem] using this
def GotTo (w : World) (o : Option ByteArray) (e : Ending) (w' : World) : Prop := ∃ r : Vl, e = .returned (.tuple #[.slice r.a r.n r.c, .bool o.isSome]) ∧ RowAt w' r (o.getD ⟨#[]⟩) ∧ (∀ g, r.a = some ⟨g, 0, none⟩ → w.heap.size ≤ g) ∧ Below w.heap.size w w'
theorem rw_row {w : World} {B : Nat → Prop} {v : Vl} {L : List MV} (h : ChAt w B v L) (ha : AscC (pvs L)) (t : Int) : RowAt w (rwV (asL L t)) ((rowC (pvs L) t).getD ⟨#[]⟩) ∧ rwB (asL L t) = (rowC (pvs L) t).isSome := by
 unfold rowC
 rw [asL_as ha]
 cases e : asL L t with
 | none => exact ⟨rowAt_nil w, rfl⟩
 | some x =>
   have hx : x ∈ L := by
    unfold asL at e
    split at e
    · cases e
    · exact List.mem_of_getElem? e
   have hr := h.rows x hx
   simp only [Option.map_some, rowO, rwV, rwB]
   cases x.v.gn with
   | true => exact ⟨rowAt_nil w, rfl⟩
   | false => exact ⟨hr, rfl⟩
set_option maxRecDepth 100000 in
theorem vget_ {W : Zn} {w : World} {ps : Nat} {m : List Ct} (h : VnAt W w ps m) (hm : nVer m ≤ 1000000) (k : ByteArray) (t : Int) :
 Calls Tryz.prog 34 #[.pointer (some ⟨ps, 0, none⟩), .string k, .int .i64 t] w (GotTo w (rowC (chM k m) t)) := by
 obtain ⟨p, M, F, l, rd, hd, rfl⟩ := h.ex
 have hasc := h.ok.ch k
 have hlen := ch_le h.ok.srt k
 have HK := Lib.hid (kept_ hd.bs)
 obtain ⟨L, hL, hpv, _⟩ := hd.chain k
 rw [← hpv] at hasc hlen ⊢
 rw [pvs_len] at hlen
 have HG : Hid (Calls Tryz.prog 61 #[.pointer (some ⟨p, 0, none⟩), .string k] w fun e w' => e = .returned (.tuple #[.slice ((get k l).getD vz).a ((get k l).getD vz).n ((get k l).getD vz).c, .bool (get k l).isSome]) ∧ Below w.heap.size w w') := tget_ hd.wk.st hd.tr k
 generalize (get k l).getD vz = v at *
 generalize (get k l).isSome = b at *
 have HR : Hid (∀ V, Below w.heap.size w V → Calls Tryz.prog 62 #[.slice v.a v.n v.c, .int .i64 t] V fun e w' => e = .returned (.tuple #[.slice (rwV (asL L t)).a (rwV (asL L t)).n (rwV (asL L t)).c, .bool (rowC (pvs L) t).isSome]) ∧ Below w.heap.size w w') := fun V hV => by
  obtain ⟨s1, s2, _⟩ := hL.row.shape
  refine (row_ s1 (s2.on hV) (by omega) hasc t).mono fun e w' ⟨e1, e2⟩ => ?_
  rw [(rw_row hL hasc t).2] at e1
  exact ⟨e1, below_step hV e2⟩
 have HC : Hid (∀ V, Below w.heap.size w V → Calls Tryz.prog 51 #[.slice (rwV (asL L t)).a (rwV (asL L t)).n (rwV (asL L t)).c] V (Made V ((rowC (pvs L) t).getD ⟨#[]⟩))) := fun V hV => by
  have hr := (rw_row hL hasc t).1.on hV
  obtain ⟨r1, r2, r3⟩ := hr.bytes
  exact clone_ r1 r2 r3 hr.le
 generalize rwV (asL L t) = r at *
 generalize rowC (pvs L) t = o at *
 clear h hd hasc hlen hL hpv hm
 go_enter Tryz.func34, Tryz.ntmps34
 go_wp2_with (first
  | (go_at_call 60; refine HK.out.mono ?_; rintro e w' ⟨rfl, rfl⟩)
  | (go_at_call 61; refine HG.out.mono ?_; rintro e w1 ⟨rfl, hb1⟩; have HB1 := Lib.hid hb1; clear hb1)
  | (go_at_call 62; refine (HR.out _ HB1.out).mono ?_; rintro e w2 ⟨rfl, hb2⟩; have HB2 := Lib.hid hb2; clear hb2)
  | (go_at_call 51; refine (HC.out _ HB2.out).mono ?_; rintro e w3 ⟨q, rfl, hq⟩; have HQ := Lib.hid hq; clear hq)
  | fail)
 go_ret2
 exact ⟨q, rfl, HQ.out.1, fun g hg => Nat.le_trans HB2.out.size (HQ.out.2.1 g hg), below_step HB2.out HQ.out.2.2⟩
end Go.Proofs.YtalmanfjiblhcaaGreat
namespace Go.Proofs.YtalmanfjiblhcaaGreat
open Go.RowKit Go.Sort
def Odd (w w' : World) : Prop := ∀ (b : Nat) (c : Array Value) (t : TypeId) (z : Nat × Nat), w.heap[b]? = some (.cells c t z) → z ≠ (0, 0) → w'.heap[b]? = some (.cells c t z)
def AlienV (w w' : World) : Prop := (∀ (b : Nat) (c : Array Value) (t : TypeId), w.heap[b]? = some (.cells c t (0, 0)) → t ≠ 204 → t ≠ 200 → t ≠ 196 → t ≠ 215 → t ≠ 178 → w'.heap[b]? = some (.cells c t (0, 0))) ∧ Odd w w'
theorem AlienV.trans {a b c : World} (h : AlienV a b) (k : AlienV b c) : AlienV a c := ⟨fun q d t hq h1 h2 h3 h4 h5 => k.1 q d t (h.1 q d t hq h1 h2 h3 h4 h5) h1 h2 h3 h4 h5, fun q d t z hq hz => k.2 q d t z (h.2 q d t z hq hz) hz⟩
theorem AlienV.below {w w' : World} (h : Below w.heap.size w w') : AlienV w w' := ⟨fun b _ _ hb _ _ _ _ _ => (h.block b (blk_lt hb)).trans hb, fun b _ _ _ hb _ => (h.block b (blk_lt hb)).trans hb⟩
theorem alienV_of {w w' : World} (h : Alien w w') (h2 : Odd w w') : AlienV w w' := ⟨fun b c t hb h1 h2 h3 h4 _ => h b c t hb h1 h2 h3 h4, h2⟩
theorem odd_ne {w : World} {b k : Nat} {c c' : Array Value} {t t' : TypeId} {z : Nat × Nat} (hb : w.heap[b]? = some (.cells c t z)) (hz : z ≠ (0, 0)) (hk : w.heap[k]? = some (.cells c' t' (0, 0))) : b ≠ k := by
 rintro rfl
 rw [hb] at hk
 cases hk
 exact hz rfl
theorem KeptT.odd {M M' : Nat → Option Nd} {F F' : Nat → Prop} {p : Nat} {w w' : World} {l : List It} {G : Nat → Prop} (hk : KeptT M M' F F' p w w') (hs : Store w M) (ht : TreeAt w M p l G) : Odd w w' := fun b c t z hb hz => by
 refine (hk.stays hb ?_ fun e => ?_).1
 · rintro ⟨q, n, hq, rfl | e | e⟩
   · exact odd_ne hb hz (hs.blk _ _ hq) rfl
   · obtain ⟨c2, k2⟩ := row_block (hs.its q n hq) e
     exact odd_ne hb hz k2 rfl
   · obtain ⟨c2, k2⟩ := row_block (hs.ks q n hq) e
     exact odd_ne hb hz k2 rfl
 · subst e
   rcases ht.root with ⟨_, _, e⟩ | ⟨_, _, _, _, e⟩
   · exact odd_ne hb hz e rfl
   · exact odd_ne hb hz e rfl
theorem alienV_grown {w w' : World} {v : Value} {L : List MV} (h : RowV w v L) (hg : w.grownBy w' v.ownBlock) : AlienV w w' := by
 refine ⟨fun b c t hb _ _ _ _ h5 => ?_, fun b c t z hb hz => ?_⟩
 · refine (hg.block b (blk_lt hb) fun e => ?_).trans hb
   obtain ⟨cur, hc⟩ := row_block h e.symm
   exact kind_ne hb hc h5 rfl
 · refine (hg.block b (blk_lt hb) fun e => ?_).trans hb
   obtain ⟨cur, hc⟩ := row_block h e.symm
   exact odd_ne hb hz hc rfl
theorem Store.rowV {w w' : World} {M : Nat → Option Nd} {v : Value} {L : List MV} (h : Store w M) (hr : RowV w v L) (hg : w.grownBy w' v.ownBlock) : Store w' M := by
 refine h.keep fun k hk => hg.block k (h.lt hk) fun e => ?_
 obtain ⟨cur, hc⟩ := row_block hr e.symm
 obtain ⟨q, n, hq, rfl | e1 | e1⟩ := hk
 · exact kind_ne (h.blk _ _ hq) hc (by decide) rfl
 · obtain ⟨c2, h2⟩ := row_block (h.its q n hq) e1
   exact kind_ne h2 hc (by decide) rfl
 · obtain ⟨c2, h2⟩ := row_block (h.ks q n hq) e1
   exact kind_ne h2 hc (by decide) rfl
theorem TreeAt.pblk {w : World} {M : Nat → Option Nd} {p : Nat} {l : List It} {F : Nat → Prop} (h : TreeAt w M p l F) : ∃ c, w.heap[p]? = some (.cells c 215 (0, 0)) := by
 rcases h.root with ⟨_, _, e⟩ | ⟨_, _, _, _, e⟩
 · exact ⟨_, e⟩
 · exact ⟨_, e⟩
theorem TreeAt.keep {w w' : World} {M : Nat → Option Nd} {p : Nat} {l : List It} {F : Nat → Prop} (h : TreeAt w M p l F) (hp : w'.heap[p]? = w.heap[p]?) : TreeAt w' M p l F :=
 ⟨h.srt, h.own, h.root.imp (fun ⟨a, b, c⟩ => ⟨a, b, hp.trans c⟩) (fun ⟨a, b, c, d, e⟩ => ⟨a, b, c, d, hp.trans e⟩)⟩
def rdU (rd : Nat → List MV) (g : Nat) (L : List MV) : Nat → List MV := fun b => if b = g then L else rd b
structure VnH (W : Zn) (X V : World) (ps p : Nat) (M : Nat → Option Nd) (F : Nat → Prop) (l l' : List It) (rd : Nat → List MV) (m : List Ct) : Prop where
 wk : Works W V M
 tr : TreeAt V M p l F
 lp : ¬ W.S p
 ls : ¬ W.S ps
 bs : V.heap[ps]? = some (.cells #[.pointer (some ⟨p, 0, none⟩)] 176 (0, 0))
 ch : Chs V W.S rd l'
 md : mdl rd l' = m
 al : AlienV X V
theorem chain_turn {W : Zn} {X V : World} {ps p : Nat} {M : Nat → Option Nd} {F : Nat → Prop} {l : List It} {rd : Nat → List MV} (h : VnD W X ps p M F l rd) (k : ByteArray) {v : Vl} (hv : v = (get k l).getD vz) {L N : List MV} (hL : ChAt X W.S v L) {g cap : Nat}
 (hrow : RowV V (.slice (some ⟨g, 0, none⟩) N.length cap) N) (hg : X.grownBy V (Value.slice v.a v.n v.c).ownBlock) (hat : (Value.slice v.a v.n v.c).ownBlock = some g ∨ X.heap.size ≤ g)
 (hN : ∀ y ∈ N, RowAt X y.r y.v.tx) :
 VnH W X V ps p M F l (ins k ⟨some ⟨g, 0, none⟩, N.length, cap⟩ l) (rdU rd g N) (ins k (pvs N) (mdl rd l)) := by
 have hal : AlienV X V := alienV_grown hL.row hg
 have hWX := h.wk.below.size
 have hown : ∀ k, (Value.slice v.a v.n v.c).ownBlock = some k → ¬ W.S k := fun k e => by
  cases ha : v.a with
  | none => rw [ha] at e; cases e
  | some ad =>
    obtain ⟨a, c, e2, _, h3, _⟩ := row_shape hL.row
    simp only [Value.slice.injEq] at e2
    obtain ⟨g', e'⟩ := h3 ad (by rw [← e2.1, ha])
    rw [ha, e'] at e
    simp only [Value.ownBlock, Option.some.injEq] at e
    subst e
    exact hL.lo g' (by rw [ha, e'])
 have hBl : Since W V :=
  ⟨hg.os.trans h.wk.below.os, hg.tape.trans h.wk.below.tape, hg.output.trans h.wk.below.output, Nat.le_trans hWX hg.size, fun b hb => (hg.block b (by have := W.lt b hb; omega) fun e => hown b e.symm hb).trans (h.wk.below.block b hb)⟩
 have hglo : ¬ W.S g := by
  rcases hat with e | e
  · exact hown g e
  · exact h.wk.below.new e
 obtain ⟨cp, hp⟩ := h.tr.pblk
 have hpk : V.heap[p]? = X.heap[p]? := hg.block p (blk_lt hp) fun e => by
  obtain ⟨cur, hc⟩ := row_block hL.row e.symm
  exact kind_ne hp hc (by decide) rfl
 have hbyte : ∀ (b : Nat) (cur : Array Value), X.heap[b]? = some (.cells cur 5 (0, 0)) → V.heap[b]? = X.heap[b]? := fun b cur hb => (hal.1 b cur _ hb (by decide) (by decide) (by decide) (by decide) (by decide)).trans hb.symm
 have far : ∀ x ∈ l, (ltb x.1 k = true ∨ ltb k x.1 = true) → ∀ b, x.2.a = some ⟨b, 0, none⟩ → b ≠ g ∧ some b ≠ (Value.slice v.a v.n v.c).ownBlock := fun x hx hne b hb => by
  have hnk : x.1 ≠ k := fun e => by rw [e, ltb_irrefl] at hne; simp at hne
  have h2 : some b ≠ (Value.slice v.a v.n v.c).ownBlock := fun e => by
   cases hgk : get k l with
   | none => rw [hv, hgk] at e; cases e
   | some u =>
     have hvu : v = u := by rw [hv, hgk]; rfl
     obtain ⟨gu, eu, _⟩ := h.ch.at' (k, u) (get_mem hgk)
     simp only at eu
     rw [hvu, eu] at e
     simp only [Value.ownBlock, Option.some.injEq] at e
     exact hnk (h.ch.ap x hx (k, u) (get_mem hgk) (by rw [hb, eu, e]))
  refine ⟨fun e => ?_, h2⟩
  rcases hat with q | q
  · exact h2 (by rw [e]; exact q.symm)
  · obtain ⟨gx, ex, hc⟩ := h.ch.at' x hx
    rw [hb] at ex
    simp only [Option.some.injEq, Addr.mk.injEq] at ex
    obtain ⟨cur, hcb⟩ := hc.blk hb
    have := blk_lt hcb
    omega
 refine ⟨⟨h.wk.st.rowV hL.row hg, hBl, h.wk.mine⟩, h.tr.keep hpk, h.lp, h.ls, hal.1 _ _ _ h.bs (by decide) (by decide) (by decide) (by decide) (by decide), ⟨fun x hx => ?_, fun x hx y hy e => ?_⟩, ?_, hal⟩
 · rcases mem_ins.1 hx with rfl | ⟨hx, hne⟩
   · refine ⟨g, rfl, ?_⟩
     rw [show rdU rd g N g = N from if_pos rfl]
     refine ⟨hrow, fun g' hg' => ?_, fun y hy => (hN y hy).keep fun b hb => ?_⟩
     · simp only [Option.some.injEq, Addr.mk.injEq] at hg'
       rw [← hg'.1]; exact hglo
     · obtain ⟨cur, hc⟩ := (hN y hy).blk hb
       exact hbyte b cur hc
   · obtain ⟨gx, ex, hc⟩ := h.ch.at' x hx
     refine ⟨gx, ex, ?_⟩
     rw [show rdU rd g N gx = rd gx from if_neg (far x hx hne gx ex).1]
     exact hc.keep (fun b hb => by
      obtain ⟨cur, hcb⟩ := hc.blk hb
      exact hg.block b (blk_lt hcb) (far x hx hne b hb).2) hbyte
 · rcases mem_ins.1 hx with rfl | ⟨hx, hne⟩ <;> rcases mem_ins.1 hy with rfl | ⟨hy, hne'⟩
   · rfl
   · exact absurd rfl (far y hy hne' g e.symm).1
   · exact absurd rfl (far x hx hne g e).1
   · exact h.ch.ap x hx y hy e
 · unfold mdl
   rw [mapV_ins]
   have e1 : fV (rdU rd g N) ⟨some ⟨g, 0, none⟩, N.length, cap⟩ = pvs N := by simp [fV, ctV, rdU]
   rw [e1]
   refine ins_congr fun x hx hne => ?_
   obtain ⟨gx, ex, hc⟩ := h.ch.at' x hx
   unfold fV ctV
   rw [ex]
   simp only []
   rw [show rdU rd g N gx = rd gx from if_neg (far x hx hne gx ex).1]
theorem VnH.put {W : Zn} {X V V' : World} {ps p : Nat} {M M' : Nat → Option Nd} {F F' : Nat → Prop} {l l' : List It} {rd : Nat → List MV} {m : List Ct} (h : VnH W X V ps p M F l l' rd m) (hm : OkM m) (hk : KeptT M M' F F' p V V') (ht : TreeAt V' M' p l' F') : VnAt W V' ps m ∧ AlienV X V' := by
 have ha := alienV_of (hk.alien h.wk.st h.tr) (hk.odd h.wk.st h.tr)
 have hbyte : ∀ (b : Nat) (cur : Array Value), V.heap[b]? = some (.cells cur 5 (0, 0)) → V'.heap[b]? = V.heap[b]? := fun b cur hb => (ha.1 b cur _ hb (by decide) (by decide) (by decide) (by decide) (by decide)).trans hb.symm
 have hver : ∀ (b : Nat) (cur : Array Value), V.heap[b]? = some (.cells cur 178 (0, 0)) → V'.heap[b]? = V.heap[b]? := fun b cur hb => ((hk.alien h.wk.st h.tr) b cur _ hb (by decide) (by decide) (by decide) (by decide)).trans hb.symm
 refine ⟨⟨⟨p, M', F', l', rd, ⟨h.wk.kept h.lp hk, ht, h.lp, h.ls, ?_, h.ch.keep hver hbyte⟩, h.md.symm⟩, hm⟩, h.al.trans ha⟩
 exact ha.1 _ _ _ h.bs (by decide) (by decide) (by decide) (by decide) (by decide)
end Go.Proofs.YtalmanfjiblhcaaGreat
