/- What put leans on: find told plainly; a value set in its place; a child split, as a tree; node.put; node.put, as a tree; A tree in memory; New, top, Len, Put; Tree.Put; Tree.Put, whole; What lies below stays while one works on a tree of one's own; blocks of other kinds stay. -/
import Derived.Test.YtagamkahfiackaaGreatDoorJ2
namespace Go.Proofs.YtagamkahfiackaaGreatDoor
open Go.RowKit Go.Sort

/-- Items about a key. -/
structure Yes (its : List It) (k : ByteArray) (I1 : List It) (u : Vl) (I3 : List It) : Prop where
  eq : its = I1 ++ (k, u) :: I3
  lo : ∀ x ∈ I1, ltb x.1 k = true
  hi : ∀ x ∈ I3, ltb k x.1 = true
structure Not (its : List It) (k : ByteArray) (I1 I2 : List It) : Prop where
  eq : its = I1 ++ I2
  lo : ∀ x ∈ I1, ltb x.1 k = true
  hi : ∀ x ∈ I2, ltb k x.1 = true
theorem about {its : List It} (h : Srt its) (k : ByteArray) : (∃ I1 u I3, Yes its k I1 u I3) ∨ (∃ I1 I2, Not its k I1 I2) := by
  rcases h.about k with ⟨e, _⟩ | ⟨u, e, _⟩
  · exact .inr ⟨_, _, e, fun x hx => (mem_lo.1 hx).2, fun x hx => (mem_hi.1 hx).2⟩
  · exact .inl ⟨_, u, _, e, fun x hx => (mem_lo.1 hx).2, fun x hx => (mem_hi.1 hx).2⟩
theorem len_lo {k : ByteArray} {I1 I2 A B : List It} (h : I1 ++ I2 = A ++ B) (h1 : ∀ x ∈ I1, ltb x.1 k = true) (h2 : ∀ x ∈ I2, ltb x.1 k = false) (h3 : ∀ x ∈ A, ltb x.1 k = true) (h4 : ∀ x ∈ B, ltb x.1 k = false) : I1.length = A.length := by
  have e := congrArg (fun l => (l.filter fun x : It => ltb x.1 k).length) h
  simp only [List.filter_append, List.length_append] at e
  rw [List.filter_eq_self.2 h1, List.filter_eq_self.2 h3, List.filter_eq_nil_iff.2 (fun x hx => by rw [h2 x hx]; simp), List.filter_eq_nil_iff.2 (fun x hx => by rw [h4 x hx]; simp)] at e
  simpa using e
theorem found_low {its : List It} {k : ByteArray} {i : Nat} {b : Bool} (h : Found its k i b) : ∃ A B, its = A ++ B ∧ A.length = i ∧ (∀ x ∈ A, ltb x.1 k = true) ∧ (∀ x ∈ B, ltb x.1 k = false) ∧ (b = true ↔ ∃ u B', B = (k, u) :: B') := by
  obtain ⟨A, B, e, hl, h1, ⟨rfl, u, B', rfl, h3⟩ | ⟨rfl, h3⟩⟩ := h
  · refine ⟨A, _, e, hl, h1, fun x hx => ?_, by simp⟩
    rcases List.mem_cons.1 hx with rfl | hx
    · exact ltb_irrefl _
    · exact ltb_asymm (h3 x hx)
  · refine ⟨A, B, e, hl, h1, fun x hx => ltb_asymm (h3 x hx), ⟨fun q => (by cases q), ?_⟩⟩
    rintro ⟨u, B', rfl⟩
    have := h3 (k, u) (by simp)
    rw [ltb_irrefl] at this; cases this
theorem Yes.found {its : List It} {k : ByteArray} {u : Vl} {I1 I3 : List It} (y : Yes its k I1 u I3) {i : Nat} {b : Bool} (h : Found its k i b) : i = I1.length ∧ b = true := by
  obtain ⟨A, B, e, hl, h1, h2, h3⟩ := found_low h
  have hh : ∀ x ∈ (k, u) :: I3, ltb x.1 k = false := fun x hx => by
    rcases List.mem_cons.1 hx with rfl | hx
    · exact ltb_irrefl _
    · exact ltb_asymm (y.hi x hx)
  have e2 := y.eq.symm.trans e
  have el := len_lo e2 y.lo hh h1 h2
  obtain ⟨_, e4⟩ := List.append_inj e2 el
  exact ⟨by omega, h3.2 ⟨u, I3, e4.symm⟩⟩
theorem Not.found {its : List It} {k : ByteArray} {I1 I2 : List It} (y : Not its k I1 I2) {i : Nat} {b : Bool} (h : Found its k i b) : i = I1.length ∧ b = false := by
  obtain ⟨A, B, e, hl, h1, h2, h3⟩ := found_low h
  have e2 := y.eq.symm.trans e
  have el := len_lo e2 y.lo (fun x hx => ltb_asymm (y.hi x hx)) h1 h2
  obtain ⟨_, e4⟩ := List.append_inj e2 el
  refine ⟨by omega, ?_⟩
  cases b with
  | false => rfl
  | true =>
    obtain ⟨u, B', rfl⟩ := h3.1 rfl
    have := y.hi (k, u) (by rw [e4]; simp)
    rw [ltb_irrefl] at this; cases this
theorem find_yes {w : World} {M : Nat → Option Nd} {q : Nat} {n : Nd} (h : Store w M) (hq : M q = some n) (hs : Srt n.its) (hn : n.its.length ≤ 1000) {k : ByteArray} {u : Vl} {I1 I3 : List It} (y : Yes n.its k I1 u I3) :
    Calls Tryz.prog 40 #[.pointer (some ⟨q, 0, none⟩), .string k] w fun e w' => e = .returned (.tuple #[.int .i64 I1.length, .bool true]) ∧ Below w.heap.size w w' :=
  (find_ h hq hs hn k).mono fun e w' ⟨i, b, e1, hf, hb⟩ => by
    obtain ⟨rfl, rfl⟩ := y.found hf
    exact ⟨e1, hb⟩
theorem find_not {w : World} {M : Nat → Option Nd} {q : Nat} {n : Nd} (h : Store w M) (hq : M q = some n) (hs : Srt n.its) (hn : n.its.length ≤ 1000) {k : ByteArray} {I1 I2 : List It} (y : Not n.its k I1 I2) :
    Calls Tryz.prog 40 #[.pointer (some ⟨q, 0, none⟩), .string k] w fun e w' => e = .returned (.tuple #[.int .i64 I1.length, .bool false]) ∧ Below w.heap.size w w' :=
  (find_ h hq hs hn k).mono fun e w' ⟨i, b, e1, hf, hb⟩ => by
    obtain ⟨rfl, rfl⟩ := y.found hf
    exact ⟨e1, hb⟩
/-- A row's cells turned, the row in its place. -/
theorem Store.setRowI {w : World} {M : Nat → Option Nd} {q g c : Nat} {n : Nd} {cur : Array Value} {its' : List It} (h : Store w M) (hq : M q = some n) (hv : n.iv = .slice (some ⟨g, 0, none⟩) n.its.length c) (hl : its'.length = n.its.length) (hc : n.its.length ≤ c ∧ c ≤ maxLen ∧ cur.size = c * 2) (hx : cur.toList.take (n.its.length * 2) = cI its') {w' : World} (hw : w'.heap[g]? = some (.cells cur 99 (0, 0))) (hf : ∀ k, k ≠ g → w'.heap[k]? = w.heap[k]?) (hos : w'.os = w.os ∧ w'.tape = w.tape ∧ w'.output = w.output ∧ w'.heap.size = w.heap.size) :
    Store w' (upd M q { n with its := its' }) ∧ Ext (Own M) (Own (upd M q { n with its := its' })) w w' := by
  have hgo : n.iv.ownBlock = some g := by rw [hv]; rfl
  obtain ⟨cur0, hg0⟩ := row_block (h.its q n hq) hgo
  have hqg : q ≠ g := kind_ne (h.blk q n hq) hg0 (by decide)
  refine ⟨h.set hq (n' := { n with its := its' }) ((hf q hqg).trans (h.blk q n hq)) ?_ (row_keep (h.ks q n hq) fun k e => hf k fun e' => ?_) (fun k _ _ hki _ => hf k fun e => hki (e ▸ hgo)) (fun k e => .inl e) (fun k e => .inl e), ⟨hos.1, hos.2.1, hos.2.2.1, Nat.le_of_eq hos.2.2.2.symm, fun k _ hn => hf k fun e => hn ⟨q, n, hq, .inr (.inl (e ▸ hgo))⟩, own_upd hq (fun k e => .inl e) (fun k e => .inl e)⟩⟩
  · show w'.ownsRow 0 99 2 n.iv its'.length (cI its')
    rw [hl, hv]
    exact row_mk hw hc.1 hc.2.1 hc.2.2 hx
  · subst e'
    obtain ⟨cur1, hg1⟩ := row_block (h.ks q n hq) e
    exact kind_ne hg0 hg1 (by decide) rfl
theorem cI_setV : ∀ (I1 : List It) (k : ByteArray) (u v : Vl) (I3 : List It), (cI (I1 ++ (k, u) :: I3)).set (I1.length * 2 + 1) (.slice v.a v.n v.c) = cI (I1 ++ (k, v) :: I3)
  | [], k, u, v, I3 => rfl
  | x :: I1, k, u, v, I3 => by
    have := cI_setV I1 k u v I3
    simp only [List.cons_append, cI_cons, List.length_cons]
    rw [show (I1.length + 1) * 2 + 1 = I1.length * 2 + 1 + 1 + 1 by omega, List.set_cons_succ, List.set_cons_succ, this]
/-- A value set in its place. -/
theorem Store.setV {w : World} {M : Nat → Option Nd} {q : Nat} {n : Nd} {I1 I3 : List It} {k : ByteArray} {u : Vl} (v : Vl) (h : Store w M) (hq : M q = some n) (hI : n.its = I1 ++ (k, u) :: I3) {g c : Nat} (hv : n.iv = .slice (some ⟨g, 0, none⟩) (I1.length + I3.length + 1) c) :
    Store (w.setCell ⟨g, I1.length * 2 + 1, none⟩ (.slice v.a v.n v.c)) (upd M q { n with its := I1 ++ (k, v) :: I3 }) ∧ Ext (Own M) (Own (upd M q { n with its := I1 ++ (k, v) :: I3 })) w (w.setCell ⟨g, I1.length * 2 + 1, none⟩ (.slice v.a v.n v.c)) := by
  have hl : n.its.length = I1.length + I3.length + 1 := by rw [hI]; simp; omega
  obtain ⟨g', c', cur, e, hg, h1, h2, h3, h4⟩ := row_open (h.its q n hq) (by omega)
  rw [hv, hl] at e
  simp only [Value.slice.injEq, Option.some.injEq, Addr.mk.injEq] at e
  obtain ⟨⟨rfl, _⟩, _, rfl⟩ := e
  refine h.setRowI hq (by rw [hv, hl]) (by rw [hl]; simp; omega) ⟨h1, h2, ?_⟩ ?_ (heap_set (.slice v.a v.n v.c) hg) (fun k hk => heap_far _ hk) ⟨rfl, rfl, rfl, size_set _ _ _⟩
  · simpa using h3
  · rw [Array.toList_setIfInBounds, List.take_set, h4, hI, cI_setV]
/-- What lies on both sides of a child. -/
theorem weave_cut : ∀ (J1 : List It) (y : It) (J2 : List It) (A B : List (List It)), A.length = J1.length + 1 → weave (J1 ++ y :: J2) (A ++ B) = weave J1 A ++ y :: weave J2 B
  | [], y, J2, [a], B, _ => by simp [weave]
  | x :: J1, y, J2, a :: A, B, h => by
    simp only [List.cons_append, weave, weave_cut J1 y J2 A B (by simpa using h), List.append_assoc]
theorem eight {its : List It} (h : its.length = 8) : ∃ J1 y J2, its = J1 ++ y :: J2 ∧ J1.length = 4 ∧ J2.length = 3 := by
  refine ⟨its.take 4, its[4], its.drop 5, ?_, by rw [List.length_take]; omega, by rw [List.length_drop]; omega⟩
  rw [← List.drop_eq_getElem_cons, List.take_append_drop]
/-- splitChild, as a tree. -/
def SplitN (M : Nat → Option Nd) (h q len : Nat) (l : List It) (F : Nat → Prop) (w : World) (e : Ending) (w' : World) : Prop := e = .returned (.tuple #[]) ∧ ∃ M' F', Kept M M' F F' w w' ∧ Nod M' (h + 1) len len q l F'
theorem split_ {w : World} {M : Nat → Option Nd} {h q c : Nat} {n : Nd} {I1 I2 : List It} {K1 K2 : List Nat} {L1 L2 : List (List It)} {l : List It} {F1 Fc F2 : Nat → Prop} (hs : Store w M) (hq : M q = some n) (hI : n.its = I1 ++ I2) (hK : n.ks = K1 ++ c :: K2) (hIK : I1.length = K1.length) (hIK2 : I2.length = K2.length) (hn : n.its.length ≤ 100)
    (k1 : Kids (Nod M h 3 7) K1 L1 F1) (kc : Nod M h 8 8 c l Fc) (k2 : Kids (Nod M h 3 7) K2 L2 F2) (d1 : ∀ x, F1 x → ¬ Fc x) (d2 : ∀ x, F1 x → ¬ F2 x) (d3 : ∀ x, Fc x → ¬ F2 x) (q1 : ¬ F1 q) (qc : ¬ Fc q) (q2 : ¬ F2 q) :
    Calls Tryz.prog 52 #[.pointer (some ⟨q, 0, none⟩), .int .i64 I1.length] w (SplitN M h q (n.its.length + 1) (pre I1 L1 ++ (l ++ suf I2 L2)) (fun x => x = q ∨ F1 x ∨ Fc x ∨ F2 x) w) := by
  have l1 := k1.len
  have l2 := k2.len
  have lt1 := k1.lt hs
  have ltc := kc.lt hs
  have lt2 := k2.lt hs
  have ltq := hs.node_lt hq
  have hnl : n.its.length = I1.length + I2.length := by rw [hI]; simp
  cases h with
  | zero => exact kc.elim
  | succ h =>
    obtain ⟨nc, ls, Fk, hc, b1, b2, b3, b4, kk, rfl, hcn, hF⟩ := kc
    have hqc : q ≠ c := fun e => qc ((hF q).2 (.inl e))
    obtain ⟨J1, y, J2, hJ, hJ1, hJ2⟩ := eight (show nc.its.length = 8 by omega)
    have fin : ∀ (C1 C2 : List Nat) (la lb : List (List It)) (FA FB : Nat → Prop), ls = la ++ lb → Kids (Nod M h 3 7) C1 la FA → Kids (Nod M h 3 7) C2 lb FB → (∀ x, FA x → ¬ FB x) → (∀ x, Fk x ↔ FA x ∨ FB x) → weave nc.its ls = weave J1 la ++ y :: weave J2 lb → (h = 0 → C1 = [] ∧ C2 = []) → (h ≠ 0 → C1.length = 5 ∧ C2.length = 4) → ∀ e w', SplitTo w M q c (I1 ++ y :: I2) K1 K2 J1 C1 J2 C2 e w' → SplitN M (h + 1) q (n.its.length + 1) (pre I1 L1 ++ (weave nc.its ls ++ suf I2 L2)) (fun x => x = q ∨ F1 x ∨ Fc x ∨ F2 x) w e w' := by
      intro C1 C2 la lb FA FB hls kA kB dAB hFk hw hz hnz e w' hsp
      obtain ⟨he, M', r, hS⟩ := hsp
      obtain ⟨nq, hnq, eq1, eq2⟩ := hS.atq
      obtain ⟨ncx, hncx, ec1, ec2⟩ := hS.atc
      obtain ⟨nr, hnr, er1, er2⟩ := hS.atr
      have hrn := hS.new
      have Fcx : ∀ x, Fk x → Fc x := fun x hx => (hF x).2 (.inr hx)
      have sA : ∀ x, FA x → Fk x := fun x hx => (hFk x).2 (.inl hx)
      have sB : ∀ x, FB x → Fk x := fun x hx => (hFk x).2 (.inr hx)
      have keep : ∀ G : Nat → Prop, (∀ x, G x → x < w.heap.size) → (¬ G q) → (¬ G c) → ∀ x, G x → M' x = M x := fun G g1 g2 g3 x hx => hS.rest x (fun e => g2 (e ▸ hx)) (fun e => g3 (e ▸ hx)) (fun e => by have := g1 x hx; omega)
      have ltA : ∀ x, FA x → x < w.heap.size := kA.lt hs
      have ltB : ∀ x, FB x → x < w.heap.size := kB.lt hs
      have nodc : Nod M' (h + 1) 3 7 c (weave J1 la) (fun x => x = c ∨ FA x) := by
        refine ⟨ncx, la, FA, hncx, by rw [ec1]; omega, by rw [ec1]; omega, fun z => by rw [ec2]; exact (hz z).1, fun z => by rw [ec2, ec1, (hnz z).1]; omega, ?_, by rw [ec1], fun q => hcn (sA c q), fun x => Iff.rfl⟩
        rw [ec2]
        exact kA.frame (keep FA ltA (fun q => qc (Fcx _ (sA _ q))) (fun q => hcn (sA c q)))
      have nodr : Nod M' (h + 1) 3 7 r (weave J2 lb) (fun x => x = r ∨ FB x) := by
        refine ⟨nr, lb, FB, hnr, by rw [er1]; omega, by rw [er1]; omega, fun z => by rw [er2]; exact (hz z).2, fun z => by rw [er2, er1, (hnz z).2]; omega, ?_, by rw [er1], fun q => by have := ltB r q; omega, fun x => Iff.rfl⟩
        rw [er2]
        exact kB.frame (keep FB ltB (fun q => qc (Fcx _ (sB _ q))) (fun q => hcn (sB c q)))
      have cF : Fc c := (hF c).2 (.inl rfl)
      have kk1 := k1.frame (keep F1 lt1 q1 (fun q => d1 c q cF))
      have kk2 := k2.frame (keep F2 lt2 q2 (fun q => d3 c cF q))
      have kids := kids_two kk1 nodc nodr kk2 (fun x hx q => q.elim (fun e => d1 x hx (e ▸ cF)) (fun q => d1 x hx (Fcx x (sA x q)))) (fun x hx q => q.elim (fun e => by have := lt1 x hx; omega) (fun q => d1 x hx (Fcx x (sB x q)))) d2 (fun x hx q => hx.elim (fun e => d3 x (e ▸ cF) q) (fun g => d3 x (Fcx x (sA x g)) q)) (fun x hx q => hx.elim (fun e => by have := lt2 x q; omega) (fun g => d3 x (Fcx x (sB x g)) q)) (fun x hx q => hx.elim (fun e => q.elim (fun e' => by have := ltc c cF; omega) (fun g => hcn (e ▸ sB x g))) (fun g => q.elim (fun e' => by have := ltA x g; omega) (dAB x g)))
      refine ⟨he, M', fun x => x = q ∨ (F1 x ∨ (x = c ∨ FA x) ∨ (x = r ∨ FB x) ∨ F2 x), ⟨hS.st, hS.ext, fun k hk hno => hS.rest k (fun e => hno (.inl e)) (fun e => hno (.inr (.inr (.inl (e ▸ cF))))) (by omega), fun k hk => ?_⟩, nq, L1 ++ weave J1 la :: weave J2 lb :: L2, _, hnq, ?_, ?_, fun z => by omega, fun _ => ?_, ?_, ?_, ?_, fun x => Iff.rfl⟩
      · rcases hk with rfl | g | (rfl | g) | (rfl | g) | g
        · exact .inl (.inl rfl)
        · exact .inl (.inr (.inl g))
        · exact .inl (.inr (.inr (.inl cF)))
        · exact .inl (.inr (.inr (.inl (Fcx _ (sA _ g)))))
        · exact .inr hrn
        · exact .inl (.inr (.inr (.inl (Fcx _ (sB _ g)))))
        · exact .inl (.inr (.inr (.inr g)))
      · rw [eq1, hnl]; simp; omega
      · rw [eq1, hnl]; simp; omega
      · rw [eq1, eq2]; simp; omega
      · rw [eq2]; exact kids
      · rw [eq1, hw, weave_at I1 (y :: I2) L1 (weave J1 la) (weave J2 lb :: L2) (by omega) (by simp; omega), suf_cons]
        simp
      · rintro (g | (g | g) | (g | g) | g)
        · exact q1 g
        · exact hqc g
        · exact qc (Fcx _ (sA _ g))
        · omega
        · exact qc (Fcx _ (sB _ g))
        · exact q2 g
    by_cases hz : h = 0
    · have hks := b3 hz
      rw [hks] at kk
      obtain ⟨rfl, hno⟩ := kk.nil
      refine (split_leaf hs hq hc hqc hI hK hIK (by omega) (by rw [hK]; simp; omega) hJ hJ1 hJ2 hks).mono fun e w' hsp => fin [] [] [] [] (fun _ => False) (fun _ => False) rfl kids_nil kids_nil (fun _ q _ => q) (fun x => ⟨fun q => (hno x q).elim, fun q => q.elim False.elim False.elim⟩) (by rw [weave_nil, weave_nil, weave_nil, hJ]) (fun _ => ⟨rfl, rfl⟩) (fun z => (z hz).elim) e w' hsp
    · have hks := b4 hz
      have e1 : nc.ks = nc.ks.take 5 ++ nc.ks.drop 5 := (List.take_append_drop 5 _).symm
      have t1 : (nc.ks.take 5).length = 5 := by rw [List.length_take]; omega
      have t2 : (nc.ks.drop 5).length = 4 := by rw [List.length_drop]; omega
      rw [e1] at kk
      obtain ⟨la, lb, FA, FB, rfl, kA, kB, dAB, hFk⟩ := kk.split
      have la5 := kA.len
      refine (split_inner hs hq hc hqc hI hK hIK (by omega) (by rw [hK]; simp; omega) hJ hJ1 hJ2 e1 t1 t2).mono fun e w' hsp => fin _ _ la lb FA FB rfl kA kB dAB hFk (by rw [hJ]; exact weave_cut J1 y J2 la lb (by omega)) (fun z => (hz z).elim) (fun _ => ⟨t1, t2⟩) e w' hsp
end Go.Proofs.YtagamkahfiackaaGreatDoor

namespace Go.Proofs.YtagamkahfiackaaGreatDoor
open Go.RowKit Go.Sort

/-- What put leaves. -/
def PutTo (w : World) (M : Nat → Option Nd) (h m q : Nat) (l : List It) (F : Nat → Prop) (x : It) (e : Ending) (w' : World) : Prop :=
  e = .returned (.tuple #[.slice ((get x.1 l).getD vz).a ((get x.1 l).getD vz).n ((get x.1 l).getD vz).c, .bool (get x.1 l).isSome]) ∧ ∃ M' F', Kept M M' F F' w w' ∧ Nod M' h m 8 q (ins x.1 x.2 l) F'
theorem boxed {w w2 : World} {M : Nat → Option Nd} {x : It} (hs : Store w M) (hb : Below (w.alloc (.cells #[.string x.1, .slice x.2.a x.2.n x.2.c] 99)).heap.size (w.alloc (.cells #[.string x.1, .slice x.2.a x.2.n x.2.c] 99)) w2) : Store w2 M ∧ Below w.heap.size w w2 ∧ w2.heap[w.heap.size]? = some (.cells #[.string x.1, .slice x.2.a x.2.n x.2.c] 99 (0, 0)) ∧ ¬ Own M w.heap.size :=
  ⟨(hs.alloc _).on hb, below_step (below_alloc w _) hb, (hb.block _ (by simp)).trans (new_blk w _), hs.not_own (Nat.le_refl _)⟩
theorem Kept.base {M M' : Nat → Option Nd} {F F' : Nat → Prop} {w w1 w' : World} (h : Kept M M' F F' w1 w') (hb : Below w.heap.size w w1) : Kept M M' F F' w w' :=
  ⟨h.st, (Ext.of_below _ hb).trans h.ext, fun k hk hn => h.rest k (Nat.lt_of_lt_of_le hk hb.size) hn, fun k hk => (h.new k hk).imp id fun q => Nat.le_trans hb.size q⟩
/-- One node alone turned, and no node is new. -/
theorem Kept.one {M : Nat → Option Nd} {q : Nat} {n' : Nd} {F : Nat → Prop} {w w' : World} (hs : Store w' (upd M q n')) (hx : Ext (Own M) (Own (upd M q n')) w w') (hq : F q) : Kept M (upd M q n') F F w w' :=
  ⟨hs, hx, fun _ _ hn => upd_other _ _ fun e => hn (e ▸ hq), fun _ h => .inl h⟩
set_option maxRecDepth 100000 in
set_option maxHeartbeats 1000000 in
theorem put_yes {w : World} {M : Nat → Option Nd} {h m q : Nat} {l : List It} {F : Nat → Prop} (x : It) {u : Vl} {n : Nd} {I1 I3 : List It} (hs : Store w M) (hq : M q = some n) (hn : n.its.length ≤ 1000) (hS : Srt n.its) (hy : Yes n.its x.1 I1 u I3)
    (hN : ∀ w' n', n'.its = I1 ++ (x.1, x.2) :: I3 → n'.ks = n.ks → Store w' (upd M q n') → Ext (Own M) (Own (upd M q n')) w w' → PutTo w M h m q l F x (.returned (.tuple #[.slice u.a u.n u.c, .bool true])) w') :
    Calls Tryz.prog 50 #[.pointer (some ⟨q, 0, none⟩), .agg #[.string x.1, .slice x.2.a x.2.n x.2.c]] w (PutTo w M h m q l F x) := by
  obtain ⟨g, c, hiv, hgl, p1, p2, pf1, pf2, hc63⟩ := hs.item hq hy.eq
  have HF : Hid (Calls Tryz.prog 40 #[.pointer (some ⟨q, 0, none⟩), .string x.1] (w.alloc (.cells #[.string x.1, .slice x.2.a x.2.n x.2.c] 99)) fun e w2 => e = .returned (.tuple #[.int .i64 I1.length, .bool true]) ∧ w2.cell? ⟨q, 0, none⟩ = some (.slice (some ⟨g, 0, none⟩) (I1.length + I3.length + 1) c) ∧ w2.cell? ⟨g, I1.length * 2 + 1, none⟩ = some (.slice u.a u.n u.c) ∧ w2.frozen? ⟨g, I1.length * 2 + 1, none⟩ = false ∧ w2.cell? ⟨w.heap.size, 1, none⟩ = some (.slice x.2.a x.2.n x.2.c) ∧ Hid (Store w2 M ∧ Below w.heap.size w w2)) := by
    refine (find_yes (hs.alloc _) hq hS hn hy).mono ?_
    rintro e w2 ⟨rfl, hb⟩
    obtain ⟨s1, s2, s3, _⟩ := boxed hs hb
    obtain ⟨g', c', e1, _, t1, t2, _, t4, _⟩ := s1.item hq hy.eq
    rw [hiv] at e1
    simp only [Value.slice.injEq, Option.some.injEq, Addr.mk.injEq] at e1
    obtain ⟨⟨rfl, _⟩, _⟩ := e1
    exact ⟨rfl, by rw [(s1.cells hq).1, hiv], t2, t4, cell_of s3 rfl, s1, s2⟩
  have HZ : Hid (∀ w2, Store w2 M ∧ Below w.heap.size w w2 → PutTo w M h m q l F x (.returned (.tuple #[.slice u.a u.n u.c, .bool true])) (w2.drew.setCell ⟨g, I1.length * 2 + 1, none⟩ (.slice x.2.a x.2.n x.2.c))) := fun w2 hw2 => by
    obtain ⟨s1, s2⟩ := hw2.1.drew.setV x.2 hq hy.eq hiv
    exact hN _ { n with its := I1 ++ (x.1, x.2) :: I3 } rfl rfl s1 ((Ext.of_below _ (below_step hw2.2 (below_drew w2))).trans s2)
  clear hs hq hN hS hn p1 p2 pf1 pf2 hiv hy
  generalize I1.length = i1 at *
  generalize I3.length = i3 at *
  obtain ⟨x1, x2⟩ := x
  simp only at HF HZ
  go_enter Tryz.func50, Tryz.ntmps50
  go_wp2_with (first
    | (go_at_call 40; refine HF.out.mono ?_; rintro e w2 ⟨rfl, d1, d2, d3, d4, HS⟩)
    | fail)
  have F1 : Hid (∀ V, Below w2.heap.size w2 V → V.cell? ⟨q, 0, none⟩ = some (.slice (some ⟨g, 0, none⟩) (i1 + i3 + 1) c)) := fun V hV => (hV.cell (block_lt_of_cell d1)).trans d1
  have F2 : Hid (∀ V, Below w2.heap.size w2 V → V.cell? ⟨w.heap.size, 1, none⟩ = some (.slice x2.a x2.n x2.c)) := fun V hV => (hV.cell (block_lt_of_cell d4)).trans d4
  have hst : (Instr.storeAt 52 (.pointer (some ⟨g, i1 * 2 + 1, none⟩)) (.slice x2.a x2.n x2.c)).run Tryz.prog w2.drew = .ok () (w2.drew.setCell ⟨g, i1 * 2 + 1, none⟩ (.slice x2.a x2.n x2.c)) := by
    have hc : w2.drew.cell? ⟨g, i1 * 2 + 1, none⟩ = some (.slice u.a u.n u.c) := d2
    have hf : w2.drew.frozen? ⟨g, i1 * 2 + 1, none⟩ = false := d3
    simp only [Instr.storeAt, Instr.sureAddr, Sem.run_bind, Sem.run_pure, Result.andThen]
    simp [storeVar, Value.cells, Result.andThen, storeCells, hc, hf, go_sem]
  have HE := Lib.hid (HZ.out w2 HS.out)
  have hlt : ¬ ((i1 : Int) + (i3 : Int) + 1 ≤ (i1 : Int)) := by omega
  generalize w2.drew.setCell ⟨g, i1 * 2 + 1, none⟩ (.slice x2.a x2.n x2.c) = W3 at *
  clear HZ HS HF d1 d2 d3 d4
  refine wp_region_noPanic ?_
  refine region_ph (A := fun _ => True) (e1 := 9) (B := (fun V => Below w2.heap.size w2 V)) (e2 := 9) (C := (fun _ => True)) (by kernel_rfl) (⟨trivial, fun _ => below_drew w2, fun _ => trivial⟩) (fun hSt => ?_)
  refine take_ph 0 (.pointer (some ⟨q, 0, none⟩)) [] rfl (by kernel_rfl) (fun _ _ _ h => h) (Or.inl ⟨by rfl, ?_⟩) hSt (fun hSn => ?_)
  · intro V _; go_simp
  clear hSt; rename Ph _ _ _ _ _ _ _ => hSt
  simp only [Act.put, List.setIfInBounds_toArray, List.set_cons_zero, List.set_cons_succ]
  refine take_ph 1 (.pointer (some ⟨q, 0, none⟩)) [] rfl (by kernel_rfl) (fun _ _ _ h => h) (Or.inl ⟨by rfl, ?_⟩) hSt (fun hSn => ?_)
  · intro V _; go_simp
  clear hSt; rename Ph _ _ _ _ _ _ _ => hSt
  simp only [Act.put, List.setIfInBounds_toArray, List.set_cons_zero, List.set_cons_succ]
  refine take_ph 2 (.pointer (some ⟨q, 0, none⟩)) [] rfl (by kernel_rfl) (fun _ _ _ h => h) (Or.inl ⟨by rfl, ?_⟩) hSt (fun hSn => ?_)
  · intro V _; go_simp
  clear hSt; rename Ph _ _ _ _ _ _ _ => hSt
  simp only [Act.put, List.setIfInBounds_toArray, List.set_cons_zero, List.set_cons_succ]
  refine take_ph 3 (.slice (some ⟨g, 0, none⟩) (i1 + i3 + 1) c) [7, 8, 9] rfl (by kernel_rfl) (fun _ _ _ h => h) (Or.inl ⟨by rfl, ?_⟩) hSt (fun hSn => ?_)
  · rintro V ⟨_, hB, hC⟩; have hh := hB (by decide); have e0 := F1.out V hh; clear hB hC; go_simp
  clear hSt; rename Ph _ _ _ _ _ _ _ => hSt
  simp only [Act.put, List.setIfInBounds_toArray, List.set_cons_zero, List.set_cons_succ]
  refine take_ph 4 (.int .i64 i1) [] rfl (by kernel_rfl) (fun _ _ _ h => h) (Or.inl ⟨by rfl, ?_⟩) hSt (fun hSn => ?_)
  · intro V _; go_simp
  clear hSt; rename Ph _ _ _ _ _ _ _ => hSt
  simp only [Act.put, List.setIfInBounds_toArray, List.set_cons_zero, List.set_cons_succ]
  refine take_ph 5 (.pointer (some ⟨w.heap.size, 1, none⟩)) [] rfl (by kernel_rfl) (fun _ _ _ h => h) (Or.inl ⟨by rfl, ?_⟩) hSt (fun hSn => ?_)
  · intro V _; go_simp
  clear hSt; rename Ph _ _ _ _ _ _ _ => hSt
  simp only [Act.put, List.setIfInBounds_toArray, List.set_cons_zero, List.set_cons_succ]
  refine take_ph 6 (.slice x2.a x2.n x2.c) [9] rfl (by kernel_rfl) (fun _ _ _ h => h) (Or.inl ⟨by rfl, ?_⟩) hSt (fun hSn => ?_)
  · rintro V ⟨_, hB, hC⟩; have hh := hB (by decide); have e0 := F2.out V hh; clear hB hC; go_simp
  clear hSt; rename Ph _ _ _ _ _ _ _ => hSt
  simp only [Act.put, List.setIfInBounds_toArray, List.set_cons_zero, List.set_cons_succ]
  refine take_ph 7 (.pointer (some ⟨g, i1 * 2, none⟩)) [] rfl (by kernel_rfl) (fun _ _ _ h => h) (Or.inl ⟨by rfl, ?_⟩) hSt (fun hSn => ?_)
  · intro V _; go_simp
  clear hSt; rename Ph _ _ _ _ _ _ _ => hSt
  simp only [Act.put, List.setIfInBounds_toArray, List.set_cons_zero, List.set_cons_succ]
  refine take_ph 8 (.pointer (some ⟨g, i1 * 2 + 1, none⟩)) [] rfl (by kernel_rfl) (fun _ _ _ h => h) (Or.inl ⟨by rfl, ?_⟩) hSt (fun hSn => ?_)
  · intro V _; go_simp
  clear hSt; rename Ph _ _ _ _ _ _ _ => hSt
  simp only [Act.put, List.setIfInBounds_toArray, List.set_cons_zero, List.set_cons_succ]
  refine ready_store_ph 9 rfl (by kernel_rfl) rfl 52 _ _ rfl _ _ rfl rfl (hst) (⟨trivial, fun h => absurd (show true = false from h) (by decide), fun _ => trivial⟩) (fun hSn => ?_)
  clear hSt; rename Ph _ _ _ _ _ _ _ => hSt
  simp only [Act.put]
  refine done_ph (by kernel_rfl) ?_ _
  clear hSt
  refine NoPanic.normal ?_
  clear F1 F2 hst
  go_wp2_with fail
  go_ret2
  exact HE.out
set_option maxRecDepth 100000 in
set_option maxHeartbeats 1000000 in
theorem put_leaf {w : World} {M : Nat → Option Nd} {h m q : Nat} {l : List It} {F : Nat → Prop} (x : It) {n : Nd} {I1 I2 : List It} (hs : Store w M) (hq : M q = some n) (hn : n.its.length ≤ 1000) (hS : Srt n.its) (hy : Not n.its x.1 I1 I2) (hk : n.ks = [])
    (hN : ∀ w' n', n'.its = I1 ++ (x.1, x.2) :: I2 → n'.ks = n.ks → Store w' (upd M q n') → Ext (Own M) (Own (upd M q n')) w w' → PutTo w M h m q l F x (.returned (.tuple #[.slice none 0 0, .bool false])) w') :
    Calls Tryz.prog 50 #[.pointer (some ⟨q, 0, none⟩), .agg #[.string x.1, .slice x.2.a x.2.n x.2.c]] w (PutTo w M h m q l F x) := by
  obtain ⟨aq, cqi, hqiv, _⟩ := row_shape (hs.its q n hq)
  have HF : Hid (Calls Tryz.prog 40 #[.pointer (some ⟨q, 0, none⟩), .string x.1] (w.alloc (.cells #[.string x.1, .slice x.2.a x.2.n x.2.c] 99)) fun e w2 => e = .returned (.tuple #[.int .i64 I1.length, .bool false]) ∧ Hid (Store w2 M ∧ Below w.heap.size w w2 ∧ w2.heap[w.heap.size]? = some (.cells #[.string x.1, .slice x.2.a x.2.n x.2.c] 99 (0, 0)))) := by
    refine (find_not (hs.alloc _) hq hS hn hy).mono ?_
    rintro e w2 ⟨rfl, hb⟩
    obtain ⟨s1, s2, s3, _⟩ := boxed hs hb
    exact ⟨rfl, s1, s2, s3⟩
  have HCh : Hid (∀ w2, Store w2 M → Calls Tryz.prog 41 #[.pointer (some ⟨q, 0, none⟩), .int .i64 I1.length] w2 fun e w' => e = .returned (.pointer none) ∧ w' = w2) := fun w2 h2 => child_none h2 hq hk _
  have HIns : Hid (∀ w2 U, Store w2 M → Below w.heap.size w w2 → Below w2.heap.size w2 U → U.heap[w2.heap.size]? = some (.cells (cI [x]).toArray 99 (0, 0)) → Calls Tryz.prog 66 #[.slice aq n.its.length cqi, .int .i64 I1.length, .slice (some ⟨w2.heap.size, 0, none⟩) 1 1] U fun e V1 => ∃ a m' c V2, e = .returned (.slice a m' c) ∧ (Instr.storeAt 100 (.pointer (some ⟨q, 0, none⟩)) (.slice a m' c)).run Tryz.prog V1 = .ok () V2 ∧ Hid (PutTo w M h m q l F x (.returned (.tuple #[.slice none 0 0, .bool false])) V2)) := fun w2 U h1 h2 h3 h4 => by
    have hh := insI_node (h1.on h3) hq hy.eq hn (x := x) h4 (h1.not_own (Nat.le_refl _))
    rw [hqiv] at hh
    refine hh.mono ?_
    rintro e V1 ⟨v', rfl, a, m', c, V2, rfl, hst, s1, s2⟩
    exact ⟨a, m', c, V2, rfl, hst, hN _ { n with iv := .slice a m' c, its := I1 ++ x :: I2 } rfl rfl s1 ((Ext.of_below _ (below_step h2 h3)).trans s2)⟩
  have HQ : Hid (∀ V, Store V M → V.cell? ⟨q, 0, none⟩ = some (.slice aq n.its.length cqi)) := fun V hV => by rw [(hV.cells hq).1, hqiv]
  clear hs hq hN hS hn hqiv hy hk
  generalize I1.length = i1 at *
  generalize n.its.length = nl at *
  obtain ⟨x1, x2⟩ := x
  simp only at HF HIns
  go_enter Tryz.func50, Tryz.ntmps50
  go_wp2_with (first
    | (go_at_call 40; refine HF.out.mono ?_; rintro e w2 ⟨rfl, HS⟩)
    | (go_at_call 41; refine (HCh.out _ HS.out.1).mono ?_; rintro e w3 ⟨rfl, rfl⟩)
    | fail)
  rename World => w2
  obtain ⟨U, hU⟩ : ∃ U, U = w2.drew.alloc (.cells (cI [(x1, x2)]).toArray 99) := ⟨_, rfl⟩
  have HB : Hid (Below w2.heap.size w2 U) := by show Below _ _ _; rw [hU]; exact below_step (below_drew w2) (below_alloc w2.drew _)
  have hrb : Hid (∀ (a : Act) (o : Oper) (z : Operand), o.op = .buildSlice 100 1 #[(0, z)] → a.eval z = .agg #[.string x1, .slice x2.a x2.n x2.c] → (execOp a.eval o).run Tryz.prog w2.drew = .ok (.value (.slice (some ⟨w2.heap.size, 0, none⟩) 1 1)) U) := fun a o z h1 h2 => by rw [hU]; exact run_buildI w2.drew (x1, x2) a o z h1 h2
  have HI := Lib.hid (HIns.out w2 U HS.out.1 HS.out.2.1 HB.out (by rw [hU]; exact new_blk w2.drew _))
  have F1 : Hid (∀ V, Below w2.heap.size w2 V → V.cell? ⟨q, 0, none⟩ = some (.slice aq nl cqi)) := fun V hV => HQ.out V (HS.out.1.on hV)
  have F2 : Hid (∀ V, Below w2.heap.size w2 V → V.cell? ⟨w.heap.size, 0, none⟩ = some (.string x1) ∧ V.cell? ⟨w.heap.size, 1, none⟩ = some (.slice x2.a x2.n x2.c)) := fun V hV => by
    have hb := (hV.block _ (blk_lt HS.out.2.2)).trans HS.out.2.2
    exact ⟨cell_of hb rfl, cell_of hb rfl⟩
  clear HF HCh HIns HQ hU HS
  refine wp_region_noPanic ?_
  refine region_ph (A := fun _ => True) (e1 := 8) (B := (fun V => Below w2.heap.size w2 V)) (e2 := 8) (C := (fun _ => True)) (by kernel_rfl) (⟨trivial, fun _ => below_drew w2, fun _ => trivial⟩) (fun hSt => ?_)
  refine take_ph 0 (.pointer (some ⟨q, 0, none⟩)) [] rfl (by kernel_rfl) (fun _ _ _ h => h) (Or.inl ⟨by rfl, ?_⟩) hSt (fun hSn => ?_)
  · intro V _; go_simp
  clear hSt; rename Ph _ _ _ _ _ _ _ => hSt
  simp only [Act.put, List.setIfInBounds_toArray, List.set_cons_zero, List.set_cons_succ]
  refine take_ph 1 (.pointer (some ⟨q, 0, none⟩)) [] rfl (by kernel_rfl) (fun _ _ _ h => h) (Or.inl ⟨by rfl, ?_⟩) hSt (fun hSn => ?_)
  · intro V _; go_simp
  clear hSt; rename Ph _ _ _ _ _ _ _ => hSt
  simp only [Act.put, List.setIfInBounds_toArray, List.set_cons_zero, List.set_cons_succ]
  refine take_ph 2 (.pointer (some ⟨q, 0, none⟩)) [] rfl (by kernel_rfl) (fun _ _ _ h => h) (Or.inl ⟨by rfl, ?_⟩) hSt (fun hSn => ?_)
  · intro V _; go_simp
  clear hSt; rename Ph _ _ _ _ _ _ _ => hSt
  simp only [Act.put, List.setIfInBounds_toArray, List.set_cons_zero, List.set_cons_succ]
  refine take_ph 3 (.pointer (some ⟨q, 0, none⟩)) [] rfl (by kernel_rfl) (fun _ _ _ h => h) (Or.inl ⟨by rfl, ?_⟩) hSt (fun hSn => ?_)
  · intro V _; go_simp
  clear hSt; rename Ph _ _ _ _ _ _ _ => hSt
  simp only [Act.put, List.setIfInBounds_toArray, List.set_cons_zero, List.set_cons_succ]
  refine take_ph 4 (.slice aq nl cqi) [8] rfl (by kernel_rfl) (fun _ _ _ h => h) (Or.inl ⟨by rfl, ?_⟩) hSt (fun hSn => ?_)
  · rintro V ⟨_, hB, hC⟩; have hh := hB (by decide); have e0 := F1.out V hh; clear hB hC; go_simp
  clear hSt; rename Ph _ _ _ _ _ _ _ => hSt
  simp only [Act.put, List.setIfInBounds_toArray, List.set_cons_zero, List.set_cons_succ]
  refine take_ph 5 (.int .i64 i1) [] rfl (by kernel_rfl) (fun _ _ _ h => h) (Or.inl ⟨by rfl, ?_⟩) hSt (fun hSn => ?_)
  · intro V _; go_simp
  clear hSt; rename Ph _ _ _ _ _ _ _ => hSt
  simp only [Act.put, List.setIfInBounds_toArray, List.set_cons_zero, List.set_cons_succ]
  refine take_ph 6 (.agg #[.string x1, .slice x2.a x2.n x2.c]) [7, 8] rfl (by kernel_rfl) (fun _ _ _ h => h) (Or.inl ⟨by rfl, ?_⟩) hSt (fun hSn => ?_)
  · rintro V ⟨_, hB, hC⟩; have hh := hB (by decide); have e0 := F2.out V hh; clear hB hC; go_simp
  clear hSt; rename Ph _ _ _ _ _ _ _ => hSt
  simp only [Act.put, List.setIfInBounds_toArray, List.set_cons_zero, List.set_cons_succ]
  refine ready_ph 7 rfl (by kernel_rfl) rfl (.inl (hrb.out _ _ _ rfl rfl)) (⟨trivial, fun _ => HB.out, fun _ => trivial⟩) (fun hSn => ?_)
  clear hSt; rename Ph _ _ _ _ _ _ _ => hSt
  simp only [Act.put, List.setIfInBounds_toArray, List.set_cons_zero, List.set_cons_succ]
  refine ready_call_ph 8 rfl (by kernel_rfl) (fun KK hK => ?_)
  go_simp
  go_wp2_with (first | (go_at_call 66; refine HI.out.mono ?_; rintro e V3 ⟨a5, m5, c5, V4, rfl, hst4, HZ⟩))
  refine hK.out _ _ ?_ (fun hSn => ?_)
  · exact ⟨trivial, fun h => absurd (show true = false from h) (by decide), fun _ => trivial⟩
  clear hK KK hSt; rename Ph _ _ _ _ _ _ _ => hSt
  refine take_ph 9 (.pointer (some ⟨q, 0, none⟩)) [] rfl (by kernel_rfl) (fun _ _ _ h => h) (Or.inl ⟨by rfl, ?_⟩) hSt (fun hSn => ?_)
  · intro V _; go_simp
  clear hSt; rename Ph _ _ _ _ _ _ _ => hSt
  simp only [Act.put, List.setIfInBounds_toArray, List.set_cons_zero, List.set_cons_succ]
  refine take_ph 10 (.pointer (some ⟨q, 0, none⟩)) [] rfl (by kernel_rfl) (fun _ _ _ h => h) (Or.inl ⟨by rfl, ?_⟩) hSt (fun hSn => ?_)
  · intro V _; go_simp
  clear hSt; rename Ph _ _ _ _ _ _ _ => hSt
  simp only [Act.put, List.setIfInBounds_toArray, List.set_cons_zero, List.set_cons_succ]
  refine ready_store_ph 11 rfl (by kernel_rfl) rfl 100 _ _ rfl _ _ rfl rfl (hst4) (⟨trivial, fun h => absurd (show true = false from h) (by decide), fun _ => trivial⟩) (fun hSn => ?_)
  clear hSt; rename Ph _ _ _ _ _ _ _ => hSt
  simp only [Act.put]
  refine done_ph (by kernel_rfl) ?_ _
  clear hSt
  refine NoPanic.normal ?_
  clear F1 F2 HI hrb hst4 HB
  go_wp2_with fail
  go_ret2
  exact HZ.out
set_option maxRecDepth 100000 in
set_option maxHeartbeats 1000000 in
theorem put_inner {w : World} {M : Nat → Option Nd} {h m q p : Nat} {l : List It} {F : Nat → Prop} (x : It) {n : Nd} {I1 I2 : List It} {K1 K2 : List Nat} {hv : Vl} {hb : Bool} (hs : Store w M) (hq : M q = some n) (hn : n.its.length ≤ 1000) (hS : Srt n.its) (hy : Not n.its x.1 I1 I2) (hk : n.ks = K1 ++ p :: K2) (hIK : I1.length = K1.length)
    (hP : ∀ w2, Store w2 M → Below w.heap.size w w2 → Calls Tryz.prog 50 #[.pointer (some ⟨p, 0, none⟩), .agg #[.string x.1, .slice x.2.a x.2.n x.2.c]] w2 fun e w' => e = .returned (.tuple #[.slice hv.a hv.n hv.c, .bool hb]) ∧ ∃ M1 np, Store w' M1 ∧ M1 p = some np ∧ (np.its.length ≤ 7 → PutTo w M h m q l F x (.returned (.tuple #[.slice hv.a hv.n hv.c, .bool hb])) w') ∧ (7 < np.its.length → Calls Tryz.prog 52 #[.pointer (some ⟨q, 0, none⟩), .int .i64 I1.length] w' fun e w'' => e = .returned (.tuple #[]) ∧ PutTo w M h m q l F x (.returned (.tuple #[.slice hv.a hv.n hv.c, .bool hb])) w'')) :
    Calls Tryz.prog 50 #[.pointer (some ⟨q, 0, none⟩), .agg #[.string x.1, .slice x.2.a x.2.n x.2.c]] w (PutTo w M h m q l F x) := by
  have HF : Hid (Calls Tryz.prog 40 #[.pointer (some ⟨q, 0, none⟩), .string x.1] (w.alloc (.cells #[.string x.1, .slice x.2.a x.2.n x.2.c] 99)) fun e w2 => e = .returned (.tuple #[.int .i64 I1.length, .bool false]) ∧ w2.cell? ⟨w.heap.size, 0, none⟩ = some (.string x.1) ∧ w2.cell? ⟨w.heap.size, 1, none⟩ = some (.slice x.2.a x.2.n x.2.c) ∧ Hid (Store w2 M ∧ Below w.heap.size w w2)) := by
    refine (find_not (hs.alloc _) hq hS hn hy).mono ?_
    rintro e w2 ⟨rfl, hb⟩
    obtain ⟨s1, s2, s3, _⟩ := boxed hs hb
    exact ⟨rfl, cell_of s3 rfl, cell_of s3 rfl, s1, s2⟩
  have HCh : Hid (∀ w2, Store w2 M → Calls Tryz.prog 41 #[.pointer (some ⟨q, 0, none⟩), .int .i64 I1.length] w2 fun e w' => e = .returned (.pointer (some ⟨p, 0, none⟩)) ∧ w' = w2) := fun w2 h2 => by
    have := child_at h2 hq hk
    rw [hIK]
    exact this
  have HP := Lib.hid hP
  clear hs hq hP hS hn hy hk hIK
  generalize I1.length = i1 at *
  obtain ⟨x1, x2⟩ := x
  simp only at HF HP
  go_enter Tryz.func50, Tryz.ntmps50
  go_wp2_with (first
    | (go_at_call 40; refine HF.out.mono ?_; rintro e w2 ⟨rfl, d1, d2, HS⟩)
    | (go_at_call 41; refine (HCh.out _ HS.out.1).mono ?_; rintro e w3 ⟨rfl, rfl⟩)
    | (go_at_call 50; refine (HP.out _ HS.out.1 HS.out.2).mono ?_; rintro e w4 ⟨rfl, M1, np, hs4, hp4, h7, h8⟩; have HS4 := Lib.hid (And.intro hs4 (And.intro hp4 (And.intro h7 h8))); clear hs4 hp4 h7 h8)
    | fail)
  have HM := Lib.hid (hasTooMany_ HS4.out.1 HS4.out.2.1)
  by_cases h8 : 7 < np.its.length
  · have hd : decide (7 < np.its.length) = true := by simpa using h8
    rw [hd] at HM
    have HX := Lib.hid (HS4.out.2.2.2 h8)
    clear HS4 hd h8 HP HF HCh d1 d2 HS
    go_wp2_with (first
      | (go_at_call 51; refine HM.out.mono ?_; rintro e w5 ⟨rfl, rfl⟩)
      | (go_at_call 52; refine HX.out.mono ?_; rintro e w6 ⟨rfl, hz⟩; have HZ := Lib.hid hz; clear hz)
      | fail)
    go_ret2
    exact HZ.out
  · have hd : decide (7 < np.its.length) = false := by simpa using h8
    rw [hd] at HM
    have HZ := Lib.hid (HS4.out.2.2.1 (by omega))
    clear HS4 hd h8 HP HF HCh d1 d2 HS
    go_wp2_with (first
      | (go_at_call 51; refine HM.out.mono ?_; rintro e w5 ⟨rfl, rfl⟩)
      | fail)
    go_ret2
    exact HZ.out
end Go.Proofs.YtagamkahfiackaaGreatDoor

namespace Go.Proofs.YtagamkahfiackaaGreatDoor
open Go.RowKit Go.Sort

theorem Kept.trans {M M' M'' : Nat → Option Nd} {F F' G G' : Nat → Prop} {w w' w'' : World} (h1 : Kept M M' F F' w w') (h2 : Kept M' M'' G G' w' w'') (hG : ∀ k, G k → F k ∨ w.heap.size ≤ k) : Kept M M'' F G' w w'' := by
  have hs := h1.ext.size
  refine ⟨h2.st, h1.ext.trans h2.ext, fun k hk hn => (h2.rest k (Nat.lt_of_lt_of_le hk hs) fun g => ?_).trans (h1.rest k hk hn), fun k hk => ?_⟩
  · rcases hG k g with q | q
    · exact hn q
    · omega
  · rcases h2.new k hk with q | q
    · exact hG k q
    · exact .inr (Nat.le_trans hs q)
theorem Kept.widen {M M' : Nat → Option Nd} {F F' G G' : Nat → Prop} {w w' : World} (h : Kept M M' F F' w w') (hF : ∀ k, F k → G k) (hG : ∀ k, G' k → G k ∨ w.heap.size ≤ k) : Kept M M' G G' w w' :=
  ⟨h.st, h.ext, fun k hk hn => h.rest k hk fun q => hn (hF k q), hG⟩
theorem Srt.about_mid {P S : List It} {k : ByteArray} {u : Vl} (h : Srt (P ++ (k, u) :: S)) : (∀ x ∈ P, ltb x.1 k = true) ∧ (∀ x ∈ S, ltb k x.1 = true) := by
  have hp := List.pairwise_append.1 h
  exact ⟨fun x hx => hp.2.2 x hx (k, u) (by simp), (List.pairwise_cons.1 hp.2.1).1⟩
theorem split_len {ls : List (List It)} {a b : Nat} (h : ls.length = a + b + 1) : ∃ L1 l L2, ls = L1 ++ l :: L2 ∧ L1.length = a ∧ L2.length = b := by
  refine ⟨ls.take a, ls[a], ls.drop (a + 1), ?_, by rw [List.length_take]; omega, by rw [List.length_drop]; omega⟩
  rw [← List.drop_eq_getElem_cons, List.take_append_drop]
theorem weave_yes {I1 I3 : List It} {ls : List (List It)} (k : ByteArray) (h : ls = [] ∨ ls.length = I1.length + I3.length + 1 + 1) : ∃ P S, ∀ v, weave (I1 ++ (k, v) :: I3) ls = P ++ (k, v) :: S := by
  rcases h with rfl | h
  · exact ⟨I1, I3, fun v => weave_nil _⟩
  · obtain ⟨L1, l, L2, rfl, h1, h2⟩ := split_len (a := I1.length) (b := I3.length + 1) (by omega)
    cases L2 with
    | nil => simp at h2
    | cons l' L2 =>
      refine ⟨pre I1 L1 ++ l, l' ++ suf I3 L2, fun v => ?_⟩
      rw [weave_at I1 ((k, v) :: I3) L1 l (l' :: L2) (by omega) (by simp at h2 ⊢; omega), suf_cons]
      simp
theorem put_ : ∀ (h : Nat) {w : World} {M : Nat → Option Nd} {m q : Nat} {l : List It} {F : Nat → Prop} (x : It), Store w M → Nod M (h + 1) m 7 q l F → Srt l →
    Calls Tryz.prog 50 #[.pointer (some ⟨q, 0, none⟩), .agg #[.string x.1, .slice x.2.a x.2.n x.2.c]] w (PutTo w M (h + 1) m q l F x) := by
  intro h
  induction h with
  | zero =>
    intro w M m q l F x hs hN hS
    obtain ⟨n, ls, Fk, hq, b1, b2, b3, b4, kk, rfl, hqn, hF⟩ := hN
    have hks := b3 rfl
    rw [hks] at kk
    obtain ⟨rfl, hno⟩ := kk.nil
    have hSi := hS.items
    rw [weave_nil] at hS ⊢
    have fin : ∀ w' n', n'.ks = n.ks → m ≤ n'.its.length → n'.its.length ≤ 8 → Store w' (upd M q n') → Ext (Own M) (Own (upd M q n')) w w' → n'.its = ins x.1 x.2 n.its → ∀ (u : Vl) (b : Bool), u = (get x.1 n.its).getD vz → b = (get x.1 n.its).isSome → PutTo w M (0 + 1) m q n.its F x (.returned (.tuple #[.slice u.a u.n u.c, .bool b])) w' := by
      intro w' n' e1 e2 e3 s1 s2 e4 u b hu hb
      refine ⟨by rw [hu, hb], _, F, Kept.one s1 s2 ((hF q).2 (.inl rfl)), n', [], fun _ => False, upd_self _ _ _, e2, e3, fun _ => e1.trans hks, fun z => (z rfl).elim, by rw [e1, hks]; exact kids_nil, by rw [weave_nil, e4], id, fun y => ?_⟩
      rw [hF y]
      exact ⟨fun q => q.imp id (fun q => hno y q), fun q => q.imp id False.elim⟩
    rcases about hSi x.1 with ⟨I1, u, I3, hy⟩ | ⟨I1, I2, hy⟩
    · have hl : n.its.length = I1.length + I3.length + 1 := by rw [hy.eq]; simp; omega
      refine put_yes x hs hq (by omega) hSi hy fun w' n' e1 e2 s1 s2 => fin w' n' e2 ?_ ?_ s1 s2 ?_ u true ?_ ?_
      · rw [e1]; simp; omega
      · rw [e1]; simp; omega
      · rw [e1, hy.eq, ins_at hy.lo hy.hi]
      · rw [hy.eq, get_at hy.lo]; rfl
      · rw [hy.eq, get_at hy.lo]; rfl
    · have hl : n.its.length = I1.length + I2.length := by rw [hy.eq]; simp
      refine put_leaf x hs hq (by omega) hSi hy hks fun w' n' e1 e2 s1 s2 => fin w' n' e2 ?_ ?_ s1 s2 ?_ vz false ?_ ?_
      · rw [e1]; simp; omega
      · rw [e1]; simp; omega
      · rw [e1, hy.eq, ins_new hy.lo hy.hi]
      · rw [hy.eq, get_new hy.lo hy.hi]; rfl
      · rw [hy.eq, get_new hy.lo hy.hi]; rfl
  | succ h ih =>
    intro w M m q l F x hs hN hS
    obtain ⟨n, ls, Fk, hq, b1, b2, b3, b4, kk, rfl, hqn, hF⟩ := hN
    have hks := b4 (by omega)
    have hll := kk.len
    have hSi := hS.items
    rcases about hSi x.1 with ⟨I1, u, I3, hy⟩ | ⟨I1, I2, hy⟩
    · have hl : n.its.length = I1.length + I3.length + 1 := by rw [hy.eq]; simp; omega
      obtain ⟨P, S, hw⟩ := weave_yes (I1 := I1) (I3 := I3) (ls := ls) x.1 (.inr (by omega))
      have hw0 : weave n.its ls = P ++ (x.1, u) :: S := by rw [hy.eq]; exact hw u
      rw [hw0] at hS ⊢
      obtain ⟨hP, hSS⟩ := hS.about_mid
      refine put_yes x hs hq (by omega) hSi hy fun w' n' e1 e2 s1 s2 => ?_
      refine ⟨by rw [get_at hP]; rfl, _, F, Kept.one s1 s2 ((hF q).2 (.inl rfl)), n', ls, Fk, upd_self _ _ _, by rw [e1]; simp; omega, by rw [e1]; simp; omega, fun z => by omega, fun _ => by rw [e1, e2]; simp; omega, ?_, by rw [e1, ins_at hP hSS, hw], hqn, hF⟩
      rw [e2]
      exact kk.frame fun k hk => upd_other _ _ fun e => hqn (e ▸ hk)
    · have hl : n.its.length = I1.length + I2.length := by rw [hy.eq]; simp
      have hkl : n.ks.length = I1.length + I2.length + 1 := by omega
      obtain ⟨K1, p, K2, hK, hK1, hK2⟩ : ∃ K1 p K2, n.ks = K1 ++ p :: K2 ∧ K1.length = I1.length ∧ K2.length = I2.length := by
        refine ⟨n.ks.take I1.length, n.ks[I1.length], n.ks.drop (I1.length + 1), ?_, by rw [List.length_take]; omega, by rw [List.length_drop]; omega⟩
        rw [← List.drop_eq_getElem_cons, List.take_append_drop]
      rw [hK] at kk
      obtain ⟨L1, lp, L2, F1, Fp, F2, rfl, k1, kp, k2, d1, d2, d3, hFk⟩ := kk.at
      have l1 := k1.len
      have l2 := k2.len
      have q1 : ¬ F1 q := fun g => hqn ((hFk q).2 (.inl g))
      have qp : ¬ Fp q := fun g => hqn ((hFk q).2 (.inr (.inl g)))
      have q2 : ¬ F2 q := fun g => hqn ((hFk q).2 (.inr (.inr g)))
      have hw0 : weave n.its (L1 ++ lp :: L2) = pre I1 L1 ++ (lp ++ suf I2 L2) := by rw [hy.eq]; exact weave_at I1 I2 L1 lp L2 (by omega) (by omega)
      rw [hw0] at hS ⊢
      have hS3 := List.pairwise_append.1 hS
      have hS4 := List.pairwise_append.1 hS3.2.1
      have hPlt := pre_lt I1 L1 hS3.1 hy.lo
      have hSgt := suf_gt I2 L2 hS4.2.1 hy.hi
      have lt1 := k1.lt hs
      have lt2 := k2.lt hs
      have ltq := hs.node_lt hq
      refine put_inner x hs hq (by omega) hSi hy hK (by omega) (hv := (get x.1 (pre I1 L1 ++ (lp ++ suf I2 L2))).getD vz) (hb := (get x.1 (pre I1 L1 ++ (lp ++ suf I2 L2))).isSome) fun w2 hs2 hb2 => ?_
      refine (ih x hs2 kp hS4.1).mono fun e w' he => ?_
      obtain ⟨he1, M', F', hk, hN'⟩ := he
      have hsz := hk.ext.size
      have hsz2 := hb2.size
      obtain ⟨np, lsp, Fkp, hp, c1, c2, c3, c4, c5, c6, c7, c8⟩ := id hN'
      have keep : ∀ G : Nat → Prop, (∀ x, G x → x < w.heap.size) → (∀ x, G x → ¬ Fp x) → ∀ x, G x → M' x = M x := fun G g1 g2 x hx => hk.rest x (by have := g1 x hx; omega) (g2 x hx)
      have kk1 := k1.frame (keep F1 lt1 d1)
      have kk2 := k2.frame (keep F2 lt2 (fun x hx g => d3 x g hx))
      have hq' : M' q = some n := (hk.rest q (by omega) qp).trans hq
      have n1 : ∀ x, F1 x → ¬ F' x := fun x hx g => by
        rcases hk.new x g with r | r
        · exact d1 x hx r
        · have := lt1 x hx; omega
      have n3 : ∀ x, F' x → ¬ F2 x := fun x g hx => by
        rcases hk.new x g with r | r
        · exact d3 x r hx
        · have := lt2 x hx; omega
      have nq : ¬ F' q := fun g => by
        rcases hk.new q g with r | r
        · exact qp r
        · omega
      have hkw : Kept M M' F (fun x => x = q ∨ F1 x ∨ F' x ∨ F2 x) w w' := (hk.base hb2).widen (fun k g => (hF k).2 (.inr ((hFk k).2 (.inr (.inl g))))) (fun k g => by
        rcases g with rfl | g | g | g
        · exact .inl ((hF _).2 (.inl rfl))
        · exact .inl ((hF k).2 (.inr ((hFk k).2 (.inl g))))
        · rcases hk.new k g with r | r
          · exact .inl ((hF k).2 (.inr ((hFk k).2 (.inr (.inl r)))))
          · exact .inr (by omega)
        · exact .inl ((hF k).2 (.inr ((hFk k).2 (.inr (.inr g))))))
      refine ⟨by rw [get_mid hPlt hSgt]; exact he1, M', np, hk.st, hp, fun h7 => ?_, fun h8 => ?_⟩
      · refine ⟨rfl, M', _, hkw, n, L1 ++ ins x.1 x.2 lp :: L2, fun x => F1 x ∨ F' x ∨ F2 x, hq', b1, by omega, fun z => by omega, fun _ => hks, ?_, ?_, ?_, fun x => Iff.rfl⟩
        · rw [hK]
          exact kids_at kk1 ⟨np, lsp, Fkp, hp, c1, h7, c3, c4, c5, c6, c7, c8⟩ kk2 n1 d2 n3
        · rw [ins_mid hPlt hSgt, hy.eq, weave_at I1 I2 L1 _ L2 (by omega) (by omega)]
        · rintro (g | g | g)
          · exact q1 g
          · exact nq g
          · exact q2 g
      · have hsp := split_ hk.st hq' hy.eq hK (by omega) (by omega) (by omega) kk1 ⟨np, lsp, Fkp, hp, h8, c2, c3, c4, c5, c6, c7, c8⟩ kk2 n1 d2 n3 q1 nq q2
        refine hsp.mono fun e2 w'' hh => ?_
        obtain ⟨e3, M'', F'', hk2, hN2⟩ := hh
        refine ⟨e3, rfl, M'', F'', hkw.trans hk2 hkw.new, ?_⟩
        rw [ins_mid hPlt hSgt]
        exact hN2.wide (by omega) (by omega)
end Go.Proofs.YtagamkahfiackaaGreatDoor

namespace Go.Proofs.YtagamkahfiackaaGreatDoor
open Go.RowKit Go.Sort

structure TreeAt (w : World) (M : Nat → Option Nd) (p : Nat) (l : List It) (F : Nat → Prop) : Prop where
  srt : Srt l
  own : ¬ Own M p
  root : (l = [] ∧ (∀ x, ¬ F x) ∧ w.heap[p]? = some (.cells #[.pointer none, .int .i64 0] 84 (0, 0))) ∨ (∃ h q, l ≠ [] ∧ Nod M (h + 1) 1 7 q l F ∧ w.heap[p]? = some (.cells #[.pointer (some ⟨q, 0, none⟩), .int .i64 l.length] 84 (0, 0)))
/-- What a call on a tree leaves. -/
structure KeptT (M M' : Nat → Option Nd) (F F' : Nat → Prop) (p : Nat) (w w' : World) : Prop where
  st : Store w' M'
  ext : Ext (fun k => Own M k ∨ k = p) (fun k => Own M' k ∨ k = p) w w'
  rest : ∀ k, k < w.heap.size → ¬ F k → M' k = M k
  new : ∀ k, F' k → F k ∨ w.heap.size ≤ k
theorem Ext.widen {O O' : Nat → Prop} {w w' : World} (h : Ext O O' w w') (p : Nat) : Ext (fun k => O k ∨ k = p) (fun k => O' k ∨ k = p) w w' :=
  ⟨h.os, h.tape, h.output, h.size, fun k hk hn => h.block k hk fun q => hn (.inl q), fun k hk => hk.elim (fun q => (h.new k q).imp .inl id) (fun q => .inl (.inr q))⟩
theorem Ext.setp {O O' : Nat → Prop} {w0 w : World} {p o : Nat} {v : Value} (h : Ext (fun k => O k ∨ k = p) (fun k => O' k ∨ k = p) w0 w) : Ext (fun k => O k ∨ k = p) (fun k => O' k ∨ k = p) w0 (w.setCell ⟨p, o, none⟩ v) :=
  ⟨h.os, h.tape, h.output, by rw [size_set]; exact h.size, fun k hk hn => (heap_far _ fun e => hn (.inr e)).trans (h.block k hk hn), h.new⟩
theorem TreeAt.lt {w : World} {M : Nat → Option Nd} {p : Nat} {l : List It} {F : Nat → Prop} (h : TreeAt w M p l F) : p < w.heap.size := by
  rcases h.root with ⟨_, _, e⟩ | ⟨_, _, _, _, e⟩ <;> exact blk_lt e
theorem TreeAt.on {w w' : World} {M : Nat → Option Nd} {p : Nat} {l : List It} {F : Nat → Prop} (h : TreeAt w M p l F) (hb : Below w.heap.size w w') : TreeAt w' M p l F :=
  ⟨h.srt, h.own, h.root.imp (fun ⟨a, b, c⟩ => ⟨a, b, (hb.block p h.lt).trans c⟩) (fun ⟨a, b, c, d, e⟩ => ⟨a, b, c, d, (hb.block p h.lt).trans e⟩)⟩
/-- Another tree stays. -/
theorem TreeAt.other {w w' : World} {M M' : Nat → Option Nd} {p p' : Nat} {l : List It} {F F1 F1' : Nat → Prop} (h : TreeAt w M p l F) (hs : Store w M) (hk : KeptT M M' F1 F1' p' w w') (hp : p ≠ p') (hd : ∀ x, F x → ¬ F1 x) : TreeAt w' M' p l F ∧ (∀ x, F x → ¬ F1' x) := by
  have hpb : w'.heap[p]? = w.heap[p]? := hk.ext.block p h.lt fun q => q.elim h.own hp
  have hpo : ¬ Own M' p := fun q => by
    rcases hk.ext.new p (.inl q) with (r | r) | r
    · exact h.own r
    · exact hp r
    · have := h.lt; omega
  rcases h.root with ⟨a, b, c⟩ | ⟨a, b, c, d, e⟩
  · exact ⟨⟨h.srt, hpo, .inl ⟨a, b, hpb.trans c⟩⟩, fun x hx => (b x hx).elim⟩
  · have hlt := d.lt hs
    refine ⟨⟨h.srt, hpo, .inr ⟨a, b, c, d.frame fun k hk' => hk.rest k (hlt k hk') (hd k hk'), hpb.trans e⟩⟩, fun x hx g => ?_⟩
    rcases hk.new x g with r | r
    · exact hd x hx r
    · have := hlt x hx; omega
theorem ins_ne (k : ByteArray) (v : Vl) (l : List It) : ins k v l ≠ [] := by simp [ins]
theorem ins_len {l : List It} (h : Srt l) (k : ByteArray) (v : Vl) : (ins k v l).length = if (get k l).isSome then l.length else l.length + 1 := by
  rcases h.about k with ⟨e, g⟩ | ⟨u, e, g⟩
  · rw [g]
    simp only [Option.isSome_none, Bool.false_eq_true, if_false]
    conv => rhs; rw [e]
    simp [ins]; omega
  · rw [g]
    simp only [Option.isSome_some, if_true]
    conv => rhs; rw [e]
    simp [ins]
theorem alloc_vt (w : World) : (Instr.alloc 84 true (.tuple #[])).run Tryz.prog w = .ok (.pointer (some ⟨w.heap.size, 0, none⟩)) (w.alloc (.cells #[.pointer none, .int .i64 0] 84)) := by
  obtain ⟨i0, hi0, hz0, hz1, hz2⟩ := info_parts infoVT
  have hz : (zeroValue 84).run Tryz.prog w = .ok (.agg #[.pointer none, .int .i64 0]) w := by simp [zeroValue, typeInfo, hi0, hz0]
  simp [Instr.alloc, hz, newVar, newObj, go_sem, Value.cells, Result.andThen]
  rfl
theorem new_ (w : World) : Calls Tryz.prog 16 #[] w fun e w' => e = .returned (.pointer (some ⟨w.heap.size, 0, none⟩)) ∧ w' = w.alloc (.cells #[.pointer none, .int .i64 0] 84) := by
  go_enter Tryz.func16, Tryz.ntmps16
  go_wp2_with fail
  go_ret
  exact ⟨rfl, rfl⟩
theorem new_tree {w : World} {M : Nat → Option Nd} (h : Store w M) : Store (w.alloc (.cells #[.pointer none, .int .i64 0] 84)) M ∧ TreeAt (w.alloc (.cells #[.pointer none, .int .i64 0] 84)) M w.heap.size [] (fun _ => False) :=
  ⟨h.alloc _, List.Pairwise.nil, h.not_own (Nat.le_refl _), .inl ⟨rfl, fun _ q => q, new_blk w _⟩⟩
def rootV (w : World) (p : Nat) : Value := (w.cell? ⟨p, 0, none⟩).getD undef
theorem top_ {w : World} {p : Nat} {r v : Value} {q : Option Addr} (hr : r = .pointer q) (h : w.heap[p]? = some (.cells #[r, v] 84 (0, 0))) : Calls Tryz.prog 39 #[.pointer (some ⟨p, 0, none⟩)] w fun e w' => e = .returned r ∧ w' = w := by
  subst hr
  have c0 := cell_of (o := 0) h rfl
  clear h
  go_enter Tryz.func39, Tryz.ntmps39
  go_wp2_with fail
  go_ret
  exact ⟨rfl, rfl⟩
/-- What Put leaves. -/
def TPut (w : World) (M : Nat → Option Nd) (p : Nat) (l : List It) (F : Nat → Prop) (k : ByteArray) (v : Vl) (e : Ending) (w' : World) : Prop :=
  e = .returned (.tuple #[.slice ((get k l).getD vz).a ((get k l).getD vz).n ((get k l).getD vz).c, .bool (get k l).isSome]) ∧ ∃ M' F', KeptT M M' F F' p w w' ∧ TreeAt w' M' p (ins k v l) F'
end Go.Proofs.YtagamkahfiackaaGreatDoor

namespace Go.Proofs.YtagamkahfiackaaGreatDoor
open Go.RowKit Go.Sort

/-- A tree in the midst of Put: its root may have one item too many. -/
structure Mid (w : World) (M : Nat → Option Nd) (F : Nat → Prop) (p : Nat) (W : World) (M1 : Nat → Option Nd) (F1 : Nat → Prop) (h q : Nat) (l : List It) : Prop where
  k : KeptT M M1 F F1 p w W
  nod : Nod M1 (h + 1) 1 8 q l F1
  blk : W.heap[p]? = some (.cells #[.pointer (some ⟨q, 0, none⟩), .int .i64 l.length] 84 (0, 0))
  own : ¬ Own M1 p
  lt : p < w.heap.size
  srt : Srt l
  ne : l ≠ []
theorem Mid.small {w : World} {M : Nat → Option Nd} {F : Nat → Prop} {p : Nat} {W : World} {M1 : Nat → Option Nd} {F1 : Nat → Prop} {h q : Nat} {l : List It} (m : Mid w M F p W M1 F1 h q l) {np : Nd} (hn : M1 q = some np) (h7 : np.its.length ≤ 7) : ∃ M' F', KeptT M M' F F' p w W ∧ TreeAt W M' p l F' := by
  refine ⟨M1, F1, m.k, m.srt, m.own, .inr ⟨h, q, m.ne, ?_, m.blk⟩⟩
  obtain ⟨n, ls, Fk, h1, h2, h3, h4⟩ := m.nod
  rw [hn] at h1; cases h1
  exact ⟨np, ls, Fk, hn, h2, h7, h4⟩
theorem cell_bound {w : World} {k o : Nat} {v : Value} (h : w.cell? ⟨k, o, none⟩ = some v) : k < w.heap.size := block_lt_of_cell h
theorem store_one {w : World} {q o : Nat} {v u : Value} {t : TypeId} (hc : w.cell? ⟨q, o, none⟩ = some v) (hf : w.frozen? ⟨q, o, none⟩ = false) (hs : (sizeOf t).run Tryz.prog w = .ok 1 w) (h1 : u.cells = #[u]) (h2 : u.oneCell' = true) : (Instr.storeAt t (.pointer (some ⟨q, o, none⟩)) u).run Tryz.prog w = .ok () (w.setCell ⟨q, o, none⟩ u) := by
  simp only [Instr.storeAt, Instr.sureAddr, Sem.run_bind, Sem.run_pure, Result.andThen]
  simp [storeVar, hs, h1, Result.andThen, storeCells, run_store _ _ _ _ _ h2, Addr.add_lit, hc, hf]
/-- A new root above the old one, which is split. -/
theorem Mid.big {w : World} {M : Nat → Option Nd} {F : Nat → Prop} {p : Nat} {W : World} {M1 : Nat → Option Nd} {F1 : Nat → Prop} {h q : Nat} {l : List It} (m : Mid w M F p W M1 F1 h q l) {np : Nd} (hn : M1 q = some np) (h8 : 7 < np.its.length) :
    ∃ U1 U2 U3 r, (∀ (a : Act) (o : Oper) (z : Operand), o.op = .buildSlice 101 1 #[(0, z)] → a.eval z = .pointer (some ⟨q, 0, none⟩) → (execOp a.eval o).run Tryz.prog W = .ok (.value (.slice (some ⟨W.heap.size, 0, none⟩) 1 1)) U1) ∧
      (∀ (a : Act) (o : Oper) (y : Operand), o.op = .box 103 y → a.eval y = .agg #[.slice none 0 0, .slice (some ⟨W.heap.size, 0, none⟩) 1 1] → (execOp a.eval o).run Tryz.prog U1 = .ok (.value (.pointer (some ⟨r, 0, none⟩))) U2) ∧
      (Instr.storeAt 82 (.pointer (some ⟨p, 0, none⟩)) (.pointer (some ⟨r, 0, none⟩))).run Tryz.prog U2 = .ok () U3 ∧ U3.cell? ⟨p, 0, none⟩ = some (.pointer (some ⟨r, 0, none⟩)) ∧
      Calls Tryz.prog 52 #[.pointer (some ⟨r, 0, none⟩), .int .i64 0] U3 fun e w' => e = .returned (.tuple #[]) ∧ ∃ M' F', KeptT M M' F F' p w w' ∧ TreeAt w' M' p l F' := by
  obtain ⟨U1, hU1⟩ : ∃ U, U = W.alloc (.cells (cP [q]).toArray 82) := ⟨_, rfl⟩
  obtain ⟨U2, hU2⟩ : ∃ U, U = U1.alloc (.cells #[.slice none 0 0, .slice (some ⟨W.heap.size, 0, none⟩) 1 1] 103) := ⟨_, rfl⟩
  have b1 : Below W.heap.size W U1 := by rw [hU1]; exact below_alloc _ _
  have b2 : Below W.heap.size W U2 := by rw [hU2]; exact below_step b1 (below_alloc _ _)
  have r1 : U1.heap[W.heap.size]? = some (.cells (cP [q]).toArray 82 (0, 0)) := by rw [hU1]; exact new_blk _ _
  have r2 : U2.heap[W.heap.size]? = some (.cells (cP [q]).toArray 82 (0, 0)) := by rw [hU2, Below.heap_alloc _ _ _ (blk_lt r1)]; exact r1
  have rr : U2.heap[U1.heap.size]? = some (.cells #[.slice none 0 0, .slice (some ⟨W.heap.size, 0, none⟩) 1 1] 103 (0, 0)) := by rw [hU2]; exact new_blk _ _
  have hpW : p < W.heap.size := blk_lt m.blk
  have hsz1 : W.heap.size < U1.heap.size := blk_lt r1
  have p2 : U2.heap[p]? = some (.cells #[.pointer (some ⟨q, 0, none⟩), .int .i64 l.length] 84 (0, 0)) := (b2.block p hpW).trans m.blk
  obtain ⟨s1, s2⟩ := m.k.st.add (r := U1.heap.size) (n := ⟨[], [q], .slice none 0 0, .slice (some ⟨W.heap.size, 0, none⟩) 1 1⟩) b2 (Nat.le_of_lt hsz1) rr (World.ownsRow_nil _ _ _ _) (row_mk r2 (Nat.le_refl 1) (by unfold maxLen; omega) (by simp [cP]) (by simp [cP])) (fun k e => by cases e) (fun k e => by
    simp only [Value.ownBlock, Option.some.injEq] at e
    omega)
  have hpo : ¬ Own (upd M1 U1.heap.size ⟨[], [q], .slice none 0 0, .slice (some ⟨W.heap.size, 0, none⟩) 1 1⟩) p := fun g => by
    rcases s2.new p g with g | g
    · exact m.own g
    · omega
  refine ⟨U1, U2, U2.setCell ⟨p, 0, none⟩ (.pointer (some ⟨U1.heap.size, 0, none⟩)), U1.heap.size, fun a o z h1 h2 => by rw [hU1]; exact run_buildP W q a o z h1 h2, fun a o y h1 h2 => by rw [hU2]; exact run_boxN U1 a o y _ _ h1 h2, store_one (cell_of p2 rfl) (frozen_of p2) (by kernel_rfl) rfl rfl, cell_of (heap_set (o := 0) _ p2) rfl, ?_⟩
  have s3 := s1.far (o := 0) (v := .pointer (some ⟨U1.heap.size, 0, none⟩)) hpo
  have hlt1 := m.nod.lt m.k.st
  have nod3 := m.nod.frame (M' := upd M1 U1.heap.size ⟨[], [q], .slice none 0 0, .slice (some ⟨W.heap.size, 0, none⟩) 1 1⟩) (fun k hk => upd_other _ _ (by have := hlt1 k hk; omega))
  have nod8 : Nod (upd M1 U1.heap.size ⟨[], [q], .slice none 0 0, .slice (some ⟨W.heap.size, 0, none⟩) 1 1⟩) (h + 1) 8 8 q l F1 := by
    obtain ⟨n, ls, Fk, h1, h2, h3, h4⟩ := nod3
    have : n = np := by
      rw [upd_other _ _ (by have := hlt1 q m.nod.self; omega), hn] at h1
      cases h1; rfl
    subst this
    exact ⟨n, ls, Fk, h1, h8, h3, h4⟩
  have hsp := split_ s3 (upd_self M1 U1.heap.size _) (I1 := []) (I2 := []) (K1 := []) (K2 := []) rfl rfl rfl rfl (by simp) kids_nil nod8 kids_nil (fun _ q => q.elim) (fun _ q => q.elim) (fun _ _ q => q) (fun q => q) (fun g => by have := hlt1 _ g; omega) (fun q => q)
  refine hsp.mono fun e w' hh => ?_
  obtain ⟨e3, M', F', hk2, hN2⟩ := hh
  have eW : Ext (fun k => Own M k ∨ k = p) (fun k => Own M' k ∨ k = p) w w' := (m.k.ext.trans (s2.widen p)).setp.trans (hk2.ext.widen p)
  have hsW := m.k.ext.size
  have hs2 := s2.size
  have hp3 : (U2.setCell ⟨p, 0, none⟩ (.pointer (some ⟨U1.heap.size, 0, none⟩))).heap[p]? = some (.cells #[.pointer (some ⟨U1.heap.size, 0, none⟩), .int .i64 l.length] 84 (0, 0)) := by
    have := heap_set (o := 0) (.pointer (some ⟨U1.heap.size, 0, none⟩)) p2
    simpa using this
  obtain ⟨p4, p5⟩ := hk2.ext.stays hp3 hpo
  refine ⟨e3, M', F', ⟨hk2.st, eW, fun k hk hno => ?_, fun k hk => ?_⟩, m.srt, p5, .inr ⟨h + 1, U1.heap.size, m.ne, ?_, p4⟩⟩
  · rw [hk2.rest k (by rw [size_set]; omega) ?_, upd_other _ _ (by omega)]
    · exact m.k.rest k hk hno
    · rintro (g | g | g | g)
      · omega
      · exact g
      · rcases m.k.new k g with r | r
        · exact hno r
        · omega
      · exact g
  · rcases hk2.new k hk with (g | g | g | g) | g
    · exact .inr (by omega)
    · exact g.elim
    · exact m.k.new k g
    · exact g.elim
    · rw [size_set] at g
      exact .inr (by omega)
  · exact (hN2.wide (by simp) (by simp)).same (by simp [pre, suf]) (fun x => Iff.rfl)
set_option maxRecDepth 100000 in
set_option maxHeartbeats 1000000 in
theorem tput_walk {w : World} {M : Nat → Option Nd} {F : Nat → Prop} {p h q : Nat} {l : List It} {u : Vl} {k : ByteArray} {v : Vl} {n0 : Nat} (b : Bool) (hn0 : n0 ≤ 1000000) (hp0 : w.cell? ⟨p, 0, none⟩ = some (.pointer (some ⟨q, 0, none⟩)))
    (HPut : Calls Tryz.prog 50 #[.pointer (some ⟨q, 0, none⟩), .agg #[.string k, .slice v.a v.n v.c]] w fun e w1 => e = .returned (.tuple #[.slice u.a u.n u.c, .bool b]) ∧ w1.cell? ⟨p, 1, none⟩ = some (.int .i64 n0) ∧ ∃ W M1 F1, (if b then W = w1 else (Instr.storeAt 3 (.pointer (some ⟨p, 1, none⟩)) (.int .i64 ((n0 : Int) + 1))).run Tryz.prog w1 = .ok () W) ∧ Mid w M F p W M1 F1 h q l) :
    Calls Tryz.prog 35 #[.pointer (some ⟨p, 0, none⟩), .string k, .slice v.a v.n v.c] w fun e w' => e = .returned (.tuple #[.slice u.a u.n u.c, .bool b]) ∧ ∃ M' F', KeptT M M' F F' p w w' ∧ TreeAt w' M' p l F' := by
  have HP := Lib.hid HPut
  clear HPut
  have w1 := wraps_i64 ((n0 : Int) + 1) (by omega) (by omega)
  cases b with
  | true =>
    go_enter Tryz.func35, Tryz.ntmps35
    go_wp2_with (first
      | (go_at_call 50; refine HP.out.mono ?_; rintro e w2 ⟨rfl, _, W, M1, F1, hW, hm⟩; obtain rfl : W = w2 := hW; have r0 := cell_of (o := 0) hm.blk rfl; have HM := Lib.hid hm; clear hm)
      | fail)
    obtain ⟨np, lsp, Fkp, hnp, _⟩ := id HM.out.nod
    have HN := Lib.hid hnp
    have HT := Lib.hid (hasTooMany_ HM.out.k.st hnp)
    by_cases h8 : 7 < np.its.length
    · have hd : decide (7 < np.its.length) = true := by simpa using h8
      rw [hd] at HT
      obtain ⟨U1, U2, U3, r, g1, g2, g3, g4, g5⟩ := HM.out.big HN.out h8
      have G1 := Lib.hid g1
      have G2 := Lib.hid g2
      have G5 := Lib.hid g5
      clear HM HN hd h8 g1 g2 g5 HP hp0 hnp
      go_wp2_with (first
        | (go_at_call 51; refine HT.out.mono ?_; rintro e w5 ⟨rfl, rfl⟩)
        | (refine wpList_exec rfl (G1.out _ _ _ rfl rfl) ?_)
        | (refine wpList_exec rfl (G2.out _ _ _ rfl rfl) ?_)
        | (refine wpList_store_at rfl _ _ _ rfl _ _ rfl rfl g3 ?_)
        | (go_at_call 52; refine G5.out.mono ?_; rintro e w6 ⟨rfl, hz⟩; have HZ := Lib.hid hz; clear hz)
        | fail)
      go_ret2
      exact ⟨rfl, HZ.out⟩
    · have hd : decide (7 < np.its.length) = false := by simpa using h8
      rw [hd] at HT
      have HZ := Lib.hid (HM.out.small HN.out (by omega))
      clear HM HN hd h8 HP hp0 hnp
      go_wp2_with (first
        | (go_at_call 51; refine HT.out.mono ?_; rintro e w5 ⟨rfl, rfl⟩)
        | fail)
      go_ret2
      exact ⟨rfl, HZ.out⟩
  | false =>
    go_enter Tryz.func35, Tryz.ntmps35
    go_wp2_with (first
      | (go_at_call 50; refine HP.out.mono ?_; rintro e w2 ⟨rfl, c1, W, M1, F1, hW, hm⟩; have hst : (Instr.storeAt 3 (.pointer (some ⟨p, 1, none⟩)) (.int .i64 ((n0 : Int) + 1))).run Tryz.prog w2 = .ok () W := hW; clear hW; have r0 := cell_of (o := 0) hm.blk rfl; have HM := Lib.hid hm; clear hm)
      | (refine wpList_store_at rfl _ _ _ rfl _ _ rfl rfl hst ?_)
      | fail)
    obtain ⟨np, lsp, Fkp, hnp, _⟩ := id HM.out.nod
    have HN := Lib.hid hnp
    have HT := Lib.hid (hasTooMany_ HM.out.k.st hnp)
    by_cases h8 : 7 < np.its.length
    · have hd : decide (7 < np.its.length) = true := by simpa using h8
      rw [hd] at HT
      obtain ⟨U1, U2, U3, r, g1, g2, g3, g4, g5⟩ := HM.out.big HN.out h8
      have G1 := Lib.hid g1
      have G2 := Lib.hid g2
      have G5 := Lib.hid g5
      clear HM HN hd h8 g1 g2 g5 HP hp0 hnp hst c1
      go_wp2_with (first
        | (go_at_call 51; refine HT.out.mono ?_; rintro e w5 ⟨rfl, rfl⟩)
        | (refine wpList_exec rfl (G1.out _ _ _ rfl rfl) ?_)
        | (refine wpList_exec rfl (G2.out _ _ _ rfl rfl) ?_)
        | (refine wpList_store_at rfl _ _ _ rfl _ _ rfl rfl g3 ?_)
        | (go_at_call 52; refine G5.out.mono ?_; rintro e w6 ⟨rfl, hz⟩; have HZ := Lib.hid hz; clear hz)
        | fail)
      go_ret2
      exact ⟨rfl, HZ.out⟩
    · have hd : decide (7 < np.its.length) = false := by simpa using h8
      rw [hd] at HT
      have HZ := Lib.hid (HM.out.small HN.out (by omega))
      clear HM HN hd h8 HP hp0 hnp hst c1
      go_wp2_with (first
        | (go_at_call 51; refine HT.out.mono ?_; rintro e w5 ⟨rfl, rfl⟩)
        | fail)
      go_ret2
      exact ⟨rfl, HZ.out⟩
end Go.Proofs.YtagamkahfiackaaGreatDoor

namespace Go.Proofs.YtagamkahfiackaaGreatDoor
open Go.RowKit Go.Sort

theorem mid_of {w w1 : World} {M M1 : Nat → Option Nd} {F F1 : Nat → Prop} {p h q : Nat} {l : List It} {n0 : Nat} (hpo : ¬ Own M p) (hp : w.heap[p]? = some (.cells #[.pointer (some ⟨q, 0, none⟩), .int .i64 n0] 84 (0, 0))) (hk : Kept M M1 F F1 w w1) (hN : Nod M1 (h + 1) 1 8 q l F1) (hs : Srt l) (hne : l ≠ []) (b : Bool) (hb : l.length = if b then n0 else n0 + 1) :
    w1.cell? ⟨p, 1, none⟩ = some (.int .i64 n0) ∧ ∃ W M1 F1, (if b then W = w1 else (Instr.storeAt 3 (.pointer (some ⟨p, 1, none⟩)) (.int .i64 ((n0 : Int) + 1))).run Tryz.prog w1 = .ok () W) ∧ Mid w M F p W M1 F1 h q l := by
  obtain ⟨p1, p2⟩ := hk.ext.stays hp hpo
  have hkt : KeptT M M1 F F1 p w w1 := ⟨hk.st, hk.ext.widen p, hk.rest, hk.new⟩
  refine ⟨cell_of p1 rfl, ?_⟩
  cases b with
  | true =>
    simp only [if_true] at hb
    exact ⟨w1, M1, F1, rfl, hkt, hN, by rw [hb]; exact p1, p2, blk_lt hp, hs, hne⟩
  | false =>
    simp only [Bool.false_eq_true, if_false] at hb
    refine ⟨w1.setCell ⟨p, 1, none⟩ (.int .i64 ((n0 : Int) + 1)), M1, F1, store_one (cell_of p1 rfl) (frozen_of p1) (by kernel_rfl) rfl rfl, ⟨hk.st.far p2, hkt.ext.setp, hk.rest, hk.new⟩, hN, ?_, p2, blk_lt hp, hs, hne⟩
    have := heap_set (o := 1) (.int .i64 ((n0 : Int) + 1)) p1
    rw [hb]
    simpa using this
theorem tput_old {w : World} {M : Nat → Option Nd} {p h q : Nat} {l : List It} {F : Nat → Prop} (hs : Store w M) (hS : Srt l) (hpo : ¬ Own M p) (hN : Nod M (h + 1) 1 7 q l F) (hp : w.heap[p]? = some (.cells #[.pointer (some ⟨q, 0, none⟩), .int .i64 l.length] 84 (0, 0))) (hl : l.length ≤ 1000000) (k : ByteArray) (v : Vl) :
    Calls Tryz.prog 35 #[.pointer (some ⟨p, 0, none⟩), .string k, .slice v.a v.n v.c] w (TPut w M p l F k v) := by
  refine tput_walk (h := h) (get k l).isSome hl (cell_of hp rfl) ((put_ h (k, v) hs hN hS).mono fun e w1 he => ?_)
  obtain ⟨e1, M1, F1, hk, hN1⟩ := he
  exact ⟨e1, mid_of hpo hp hk hN1 (hS.ins k v) (ins_ne k v l) _ (ins_len hS k v)⟩
theorem alloc_vn (w : World) (a : Act) (o : Oper) (h : o.op = .alloc 103) : (execOp a.eval o).run Tryz.prog w = .ok (.value (.pointer (some ⟨w.heap.size, 0, none⟩))) (w.alloc (.cells #[.slice none 0 0, .slice none 0 0] 103)) := by
  obtain ⟨i0, hi0, hz0, hz1, hz2⟩ := info_parts infoVN
  have hz : (zeroValue 103).run Tryz.prog w = .ok (.agg #[.slice none 0 0, .slice none 0 0]) w := by simp [zeroValue, typeInfo, hi0, hz0]
  unfold execOp
  simp only [h]
  simp [Instr.alloc, hz, newVar, newObj, go_sem, Value.cells, Result.andThen]
  rfl
set_option maxRecDepth 100000 in
set_option maxHeartbeats 1000000 in
theorem tput_new {w : World} {M : Nat → Option Nd} {p : Nat} {F : Nat → Prop} (hs : Store w M) (hpo : ¬ Own M p) (hp : w.heap[p]? = some (.cells #[.pointer none, .int .i64 0] 84 (0, 0))) (k : ByteArray) (v : Vl) :
    Calls Tryz.prog 35 #[.pointer (some ⟨p, 0, none⟩), .string k, .slice v.a v.n v.c] w (TPut w M p [] F k v) := by
  have hpl := blk_lt hp
  obtain ⟨U1, hU1⟩ : ∃ U, U = w.alloc (.cells #[.slice none 0 0, .slice none 0 0] 103) := ⟨_, rfl⟩
  have b1 : Below w.heap.size w U1 := by rw [hU1]; exact below_alloc _ _
  have r1 : U1.heap[w.heap.size]? = some (.cells #[.slice none 0 0, .slice none 0 0] 103 (0, 0)) := by rw [hU1]; exact new_blk _ _
  have p1 := (b1.block p hpl).trans hp
  obtain ⟨s1, s2⟩ := hs.add (r := w.heap.size) (n := ⟨[], [], .slice none 0 0, .slice none 0 0⟩) b1 (Nat.le_refl _) r1 (World.ownsRow_nil _ _ _ _) (World.ownsRow_nil _ _ _ _) (fun k e => by cases e) (fun k e => by cases e)
  have hpo1 : ¬ Own (upd M w.heap.size ⟨[], [], .slice none 0 0, .slice none 0 0⟩) p := fun g => by
    rcases s2.new p g with g | g
    · exact hpo g
    · omega
  obtain ⟨U2, hU2⟩ : ∃ U, U = U1.setCell ⟨p, 0, none⟩ (.pointer (some ⟨w.heap.size, 0, none⟩)) := ⟨_, rfl⟩
  have hst : (Instr.storeAt 82 (.pointer (some ⟨p, 0, none⟩)) (.pointer (some ⟨w.heap.size, 0, none⟩))).run Tryz.prog U1 = .ok () U2 := by rw [hU2]; exact store_one (cell_of p1 rfl) (frozen_of p1) (by kernel_rfl) rfl rfl
  have p2 : U2.heap[p]? = some (.cells #[.pointer (some ⟨w.heap.size, 0, none⟩), .int .i64 ((0 : Nat) : Int)] 84 (0, 0)) := by
    rw [hU2]
    have := heap_set (o := 0) (.pointer (some ⟨w.heap.size, 0, none⟩)) p1
    simpa using this
  have st2 : Store U2 (upd M w.heap.size ⟨[], [], .slice none 0 0, .slice none 0 0⟩) := by rw [hU2]; exact s1.far hpo1
  have ex2 : Ext (fun k => Own M k ∨ k = p) (fun k => Own (upd M w.heap.size ⟨[], [], .slice none 0 0, .slice none 0 0⟩) k ∨ k = p) w U2 := by rw [hU2]; exact (s2.widen p).setp
  have hN : Nod (upd M w.heap.size ⟨[], [], .slice none 0 0, .slice none 0 0⟩) (0 + 1) 0 7 w.heap.size [] (fun x => x = w.heap.size) :=
    ⟨_, [], fun _ => False, upd_self _ _ _, Nat.zero_le _, Nat.zero_le _, fun _ => rfl, fun z => (z rfl).elim, kids_nil, rfl, id, fun x => ⟨.inl, fun q => q.elim id False.elim⟩⟩
  have HPut : Hid (Calls Tryz.prog 50 #[.pointer (some ⟨w.heap.size, 0, none⟩), .agg #[.string k, .slice v.a v.n v.c]] U2 fun e w1 => e = .returned (.tuple #[.slice none 0 0, .bool false]) ∧ w1.cell? ⟨p, 1, none⟩ = some (.int .i64 0) ∧ ∃ W, (Instr.storeAt 3 (.pointer (some ⟨p, 1, none⟩)) (.int .i64 1)).run Tryz.prog w1 = .ok () W ∧ W.cell? ⟨p, 0, none⟩ = some (.pointer (some ⟨w.heap.size, 0, none⟩)) ∧ Hid (Calls Tryz.prog 51 #[.pointer (some ⟨w.heap.size, 0, none⟩)] W fun e w' => e = .returned (.bool false) ∧ w' = W) ∧ Hid (TPut w M p [] F k v (.returned (.tuple #[.slice none 0 0, .bool false])) W)) := by
    refine (put_ 0 (k, v) st2 hN List.Pairwise.nil).mono fun e w1 he => ?_
    obtain ⟨e1, M1, F1, hk, hN1⟩ := he
    have hN1' : Nod M1 (0 + 1) 1 7 w.heap.size (ins k v []) F1 ∧ ∃ np, M1 w.heap.size = some np ∧ np.its.length = 1 := by
      obtain ⟨n, ls, Fk, h1, h2, h3, h4, h5, h6, h7, h8⟩ := hN1
      have hks := h4 rfl
      rw [hks] at h6
      obtain ⟨rfl, hno⟩ := h6.nil
      rw [weave_nil] at h7
      have hlen : n.its.length = 1 := by rw [← h7]; rfl
      refine ⟨⟨n, [], Fk, h1, by omega, by omega, h4, h5, by rw [hks]; exact hno, by rw [weave_nil]; exact h7, h8⟩, n, h1, hlen⟩
    obtain ⟨hN2, np, hnp, hnl⟩ := hN1'
    obtain ⟨c1, W, M2, F2, hW, hm⟩ := mid_of hpo1 p2 hk (hN2.wide (Nat.le_refl _) (by omega)) (Srt.ins List.Pairwise.nil k v) (ins_ne k v []) false rfl
    have hW' : (Instr.storeAt 3 (.pointer (some ⟨p, 1, none⟩)) (.int .i64 ((0 : Nat) + 1))).run Tryz.prog w1 = .ok () W := hW
    have hW2 : (Instr.storeAt 3 (.pointer (some ⟨p, 1, none⟩)) (.int .i64 1)).run Tryz.prog w1 = .ok () W := hW'
    refine ⟨e1, c1, W, hW2, cell_of hm.blk rfl, ?_, ?_⟩
    · obtain ⟨n2, ls, Fk, g1, g2, g3, g4, g5, g6, g7, _⟩ := hm.nod
      have hks := g4 rfl
      rw [hks] at g6
      obtain ⟨rfl, _⟩ := g6.nil
      rw [weave_nil] at g7
      have hlen : n2.its.length = 1 := by rw [← g7]; rfl
      have := hasTooMany_ hm.k.st g1
      rw [hlen] at this
      exact this
    · obtain ⟨n2, ls, Fk, g1, g2, g3, g4, g5, g6, g7, _⟩ := id hm.nod
      have hks := g4 rfl
      rw [hks] at g6
      obtain ⟨rfl, _⟩ := g6.nil
      rw [weave_nil] at g7
      have hlen : n2.its.length = 1 := by rw [← g7]; rfl
      obtain ⟨M', F', hk', ht'⟩ := hm.small g1 (by omega)
      have hsU := ex2.size
      refine ⟨rfl, M', F', ⟨hk'.st, ex2.trans hk'.ext, fun x hx hno => ?_, fun x hx => ?_⟩, ht'⟩
      · rw [hk'.rest x (by omega) (by omega), upd_other _ _ (by omega)]
      · rcases hk'.new x hx with g | g
        · exact .inr (by omega)
        · exact .inr (by omega)
  have hal : Hid (∀ (a : Act) (o : Oper), o.op = .alloc 103 → (execOp a.eval o).run Tryz.prog w = .ok (.value (.pointer (some ⟨w.heap.size, 0, none⟩))) U1) := fun a o h => by rw [hU1]; exact alloc_vn w a o h
  have c0 := cell_of (o := 0) hp rfl
  have c2 := cell_of (o := 0) p2 rfl
  have w1 := wraps_i64 1 (by omega) (by omega)
  clear hs hpo hp hpl hU1 b1 r1 p1 s1 s2 hpo1 hU2 p2 st2 ex2 hN
  go_enter Tryz.func35, Tryz.ntmps35
  go_wp2_with (first
    | (refine wpList_exec rfl (hal.out _ _ rfl) ?_)
    | (refine wpList_store_at rfl _ _ _ rfl _ _ rfl rfl hst ?_)
    | (go_at_call 50; refine HPut.out.mono ?_; rintro e w2 ⟨rfl, d1, W, hst2, d2, HT, HZ⟩)
    | (refine wpList_store_at rfl _ _ _ rfl _ _ rfl rfl hst2 ?_)
    | (go_at_call 51; refine HT.out.mono ?_; rintro e w5 ⟨rfl, rfl⟩)
    | fail)
  go_ret2
  exact HZ.out
theorem tput_ {w : World} {M : Nat → Option Nd} {p : Nat} {l : List It} {F : Nat → Prop} (hs : Store w M) (ht : TreeAt w M p l F) (hl : l.length ≤ 1000000) (k : ByteArray) (v : Vl) :
    Calls Tryz.prog 35 #[.pointer (some ⟨p, 0, none⟩), .string k, .slice v.a v.n v.c] w (TPut w M p l F k v) := by
  rcases ht.root with ⟨rfl, _, hp⟩ | ⟨h, q, _, hN, hp⟩
  · exact tput_new hs ht.own hp k v
  · exact tput_old hs ht.srt ht.own hN hp hl k v
end Go.Proofs.YtagamkahfiackaaGreatDoor

namespace Go.Proofs.YtagamkahfiackaaGreatDoor
open Go.RowKit Go.Sort

theorem empty_store (w : World) : Store w (fun _ => none) :=
  ⟨fun _ _ e => (by cases e), fun _ _ e => (by cases e), fun _ _ e => (by cases e), fun _ _ _ _ _ e => (by cases e), fun _ _ _ _ _ e => (by cases e)⟩
/-- What lies below stays while one works on nodes of one's own. -/
structure Works (W w : World) (M : Nat → Option Nd) : Prop where
  st : Store w M
  below : Below W.heap.size W w
  mine : ∀ k, Own M k → W.heap.size ≤ k
theorem Works.start (W : World) : Works W W (fun _ => none) := ⟨empty_store W, Below.refl _ _, fun _ ⟨_, _, e, _⟩ => by cases e⟩
theorem Works.on {W w w' : World} {M : Nat → Option Nd} (h : Works W w M) (hb : Below w.heap.size w w') : Works W w' M := ⟨h.st.on hb, below_step h.below hb, h.mine⟩
theorem Works.kept {W w w' : World} {M M' : Nat → Option Nd} {F F' : Nat → Prop} {p : Nat} (h : Works W w M) (hp : W.heap.size ≤ p) (hk : KeptT M M' F F' p w w') : Works W w' M' := by
  have hs := h.below.size
  refine ⟨hk.st, ⟨hk.ext.os.trans h.below.os, hk.ext.tape.trans h.below.tape, hk.ext.output.trans h.below.output, Nat.le_trans hs hk.ext.size, fun k hk' => ?_⟩, fun k hk' => ?_⟩
  · refine (hk.ext.block k (by omega) fun q => ?_).trans (h.below.block k hk')
    rcases q with q | q
    · have := h.mine k q; omega
    · omega
  · rcases hk.ext.new k (.inl hk') with (q | q) | q
    · exact h.mine k q
    · omega
    · omega
/-- A block of another kind stays. -/
theorem KeptT.stays {M M' : Nat → Option Nd} {F F' : Nat → Prop} {p : Nat} {w w' : World} (hk : KeptT M M' F F' p w w') {b : Nat} {o : Obj} (hb : w.heap[b]? = some o) (hn : ¬ Own M b) (hp : b ≠ p) : w'.heap[b]? = some o ∧ ¬ Own M' b := by
  have hlt := blk_lt hb
  refine ⟨(hk.ext.block b hlt fun q => q.elim hn hp).trans hb, fun q => ?_⟩
  rcases hk.ext.new b (.inl q) with (q | q) | q
  · exact hn q
  · exact hp q
  · omega
/-- Blocks of other kinds than a tree's stay. -/
def Alien (w w' : World) : Prop := ∀ (b : Nat) (c : Array Value) (t : TypeId), w.heap[b]? = some (.cells c t (0, 0)) → t ≠ 103 → t ≠ 99 → t ≠ 82 → t ≠ 84 → w'.heap[b]? = some (.cells c t (0, 0))
theorem Store.alien {w : World} {M : Nat → Option Nd} (h : Store w M) {b : Nat} {c : Array Value} {t : TypeId} (hb : w.heap[b]? = some (.cells c t (0, 0))) (h1 : t ≠ 103) (h2 : t ≠ 99) (h3 : t ≠ 82) : ¬ Own M b := by
  rintro ⟨q, n, hq, rfl | e | e⟩
  · exact kind_ne hb (h.blk _ _ hq) h1 rfl
  · obtain ⟨c2, k2⟩ := row_block (h.its q n hq) e
    exact kind_ne hb k2 h2 rfl
  · obtain ⟨c2, k2⟩ := row_block (h.ks q n hq) e
    exact kind_ne hb k2 h3 rfl
theorem KeptT.alien {M M' : Nat → Option Nd} {F F' : Nat → Prop} {p : Nat} {w w' : World} {l : List It} {G : Nat → Prop} (hk : KeptT M M' F F' p w w') (hs : Store w M) (ht : TreeAt w M p l G) : Alien w w' := fun b c t hb h1 h2 h3 h4 => by
  refine (hk.stays hb (hs.alien hb h1 h2 h3) fun e => ?_).1
  subst e
  rcases ht.root with ⟨_, _, e⟩ | ⟨_, _, _, _, e⟩
  · exact kind_ne hb e h4 rfl
  · exact kind_ne hb e h4 rfl
end Go.Proofs.YtagamkahfiackaaGreatDoor
