/- What put leans on: find told plainly; a value set in its place; a child split, as a tree. -/
import Derived.Test.YtagamkahfiackaaGreatDoorVSplit2
import Derived.Test.YtagamkahfiackaaGreatDoorVNod
namespace Go.Proofs.YtagamkahfiackaaGreatDoor
open Go.RowKit Go.Sort

/-- Items about a key. -/
structure Yes (its : List It) (k : ByteArray) (I1 : List It) (u : Vl) (I3 : List It) : Prop where
  eq : its = I1 ++ (k, u) :: I3
  lo : ∀ x ∈ I1, ltb x.1 k = true
  hi : ∀ x ∈ I3, ltb k x.1 = true
structure Not (its : List It) (k : ByteArray) (I1 I2 : List It) : Prop where
  eq : its = I1 ++ I2
  lo : ∀ x ∈ I1, ltb x.1 k = true
  hi : ∀ x ∈ I2, ltb k x.1 = true
theorem about {its : List It} (h : Srt its) (k : ByteArray) : (∃ I1 u I3, Yes its k I1 u I3) ∨ (∃ I1 I2, Not its k I1 I2) := by
  rcases h.about k with ⟨e, _⟩ | ⟨u, e, _⟩
  · exact .inr ⟨_, _, e, fun x hx => (mem_lo.1 hx).2, fun x hx => (mem_hi.1 hx).2⟩
  · exact .inl ⟨_, u, _, e, fun x hx => (mem_lo.1 hx).2, fun x hx => (mem_hi.1 hx).2⟩
theorem len_lo {k : ByteArray} {I1 I2 A B : List It} (h : I1 ++ I2 = A ++ B) (h1 : ∀ x ∈ I1, ltb x.1 k = true) (h2 : ∀ x ∈ I2, ltb x.1 k = false) (h3 : ∀ x ∈ A, ltb x.1 k = true) (h4 : ∀ x ∈ B, ltb x.1 k = false) : I1.length = A.length := by
  have e := congrArg (fun l => (l.filter fun x : It => ltb x.1 k).length) h
  simp only [List.filter_append, List.length_append] at e
  rw [List.filter_eq_self.2 h1, List.filter_eq_self.2 h3, List.filter_eq_nil_iff.2 (fun x hx => by rw [h2 x hx]; simp), List.filter_eq_nil_iff.2 (fun x hx => by rw [h4 x hx]; simp)] at e
  simpa using e
theorem found_low {its : List It} {k : ByteArray} {i : Nat} {b : Bool} (h : Found its k i b) : ∃ A B, its = A ++ B ∧ A.length = i ∧ (∀ x ∈ A, ltb x.1 k = true) ∧ (∀ x ∈ B, ltb x.1 k = false) ∧ (b = true ↔ ∃ u B', B = (k, u) :: B') := by
  obtain ⟨A, B, e, hl, h1, ⟨rfl, u, B', rfl, h3⟩ | ⟨rfl, h3⟩⟩ := h
  · refine ⟨A, _, e, hl, h1, fun x hx => ?_, by simp⟩
    rcases List.mem_cons.1 hx with rfl | hx
    · exact ltb_irrefl _
    · exact ltb_asymm (h3 x hx)
  · refine ⟨A, B, e, hl, h1, fun x hx => ltb_asymm (h3 x hx), ⟨fun q => (by cases q), ?_⟩⟩
    rintro ⟨u, B', rfl⟩
    have := h3 (k, u) (by simp)
    rw [ltb_irrefl] at this; cases this
theorem Yes.found {its : List It} {k : ByteArray} {u : Vl} {I1 I3 : List It} (y : Yes its k I1 u I3) {i : Nat} {b : Bool} (h : Found its k i b) : i = I1.length ∧ b = true := by
  obtain ⟨A, B, e, hl, h1, h2, h3⟩ := found_low h
  have hh : ∀ x ∈ (k, u) :: I3, ltb x.1 k = false := fun x hx => by
    rcases List.mem_cons.1 hx with rfl | hx
    · exact ltb_irrefl _
    · exact ltb_asymm (y.hi x hx)
  have e2 := y.eq.symm.trans e
  have el := len_lo e2 y.lo hh h1 h2
  obtain ⟨_, e4⟩ := List.append_inj e2 el
  exact ⟨by omega, h3.2 ⟨u, I3, e4.symm⟩⟩
theorem Not.found {its : List It} {k : ByteArray} {I1 I2 : List It} (y : Not its k I1 I2) {i : Nat} {b : Bool} (h : Found its k i b) : i = I1.length ∧ b = false := by
  obtain ⟨A, B, e, hl, h1, h2, h3⟩ := found_low h
  have e2 := y.eq.symm.trans e
  have el := len_lo e2 y.lo (fun x hx => ltb_asymm (y.hi x hx)) h1 h2
  obtain ⟨_, e4⟩ := List.append_inj e2 el
  refine ⟨by omega, ?_⟩
  cases b with
  | false => rfl
  | true =>
    obtain ⟨u, B', rfl⟩ := h3.1 rfl
    have := y.hi (k, u) (by rw [e4]; simp)
    rw [ltb_irrefl] at this; cases this
theorem find_yes {w : World} {M : Nat → Option Nd} {q : Nat} {n : Nd} (h : Store w M) (hq : M q = some n) (hs : Srt n.its) (hn : n.its.length ≤ 1000) {k : ByteArray} {u : Vl} {I1 I3 : List It} (y : Yes n.its k I1 u I3) :
    Calls Tryz.prog 40 #[.pointer (some ⟨q, 0, none⟩), .string k] w fun e w' => e = .returned (.tuple #[.int .i64 I1.length, .bool true]) ∧ Below w.heap.size w w' :=
  (find_ h hq hs hn k).mono fun e w' ⟨i, b, e1, hf, hb⟩ => by
    obtain ⟨rfl, rfl⟩ := y.found hf
    exact ⟨e1, hb⟩
theorem find_not {w : World} {M : Nat → Option Nd} {q : Nat} {n : Nd} (h : Store w M) (hq : M q = some n) (hs : Srt n.its) (hn : n.its.length ≤ 1000) {k : ByteArray} {I1 I2 : List It} (y : Not n.its k I1 I2) :
    Calls Tryz.prog 40 #[.pointer (some ⟨q, 0, none⟩), .string k] w fun e w' => e = .returned (.tuple #[.int .i64 I1.length, .bool false]) ∧ Below w.heap.size w w' :=
  (find_ h hq hs hn k).mono fun e w' ⟨i, b, e1, hf, hb⟩ => by
    obtain ⟨rfl, rfl⟩ := y.found hf
    exact ⟨e1, hb⟩
/-- A row's cells turned, the row in its place. -/
theorem Store.setRowI {w : World} {M : Nat → Option Nd} {q g c : Nat} {n : Nd} {cur : Array Value} {its' : List It} (h : Store w M) (hq : M q = some n) (hv : n.iv = .slice (some ⟨g, 0, none⟩) n.its.length c) (hl : its'.length = n.its.length) (hc : n.its.length ≤ c ∧ c ≤ maxLen ∧ cur.size = c * 2) (hx : cur.toList.take (n.its.length * 2) = cI its') {w' : World} (hw : w'.heap[g]? = some (.cells cur 99 (0, 0))) (hf : ∀ k, k ≠ g → w'.heap[k]? = w.heap[k]?) (hos : w'.os = w.os ∧ w'.tape = w.tape ∧ w'.output = w.output ∧ w'.heap.size = w.heap.size) :
    Store w' (upd M q { n with its := its' }) ∧ Ext (Own M) (Own (upd M q { n with its := its' })) w w' := by
  have hgo : n.iv.ownBlock = some g := by rw [hv]; rfl
  obtain ⟨cur0, hg0⟩ := row_block (h.its q n hq) hgo
  have hqg : q ≠ g := kind_ne (h.blk q n hq) hg0 (by decide)
  refine ⟨h.set hq (n' := { n with its := its' }) ((hf q hqg).trans (h.blk q n hq)) ?_ (row_keep (h.ks q n hq) fun k e => hf k fun e' => ?_) (fun k _ _ hki _ => hf k fun e => hki (e ▸ hgo)) (fun k e => .inl e) (fun k e => .inl e), ⟨hos.1, hos.2.1, hos.2.2.1, Nat.le_of_eq hos.2.2.2.symm, fun k _ hn => hf k fun e => hn ⟨q, n, hq, .inr (.inl (e ▸ hgo))⟩, own_upd hq (fun k e => .inl e) (fun k e => .inl e)⟩⟩
  · show w'.ownsRow 0 99 2 n.iv its'.length (cI its')
    rw [hl, hv]
    exact row_mk hw hc.1 hc.2.1 hc.2.2 hx
  · subst e'
    obtain ⟨cur1, hg1⟩ := row_block (h.ks q n hq) e
    exact kind_ne hg0 hg1 (by decide) rfl
theorem cI_setV : ∀ (I1 : List It) (k : ByteArray) (u v : Vl) (I3 : List It), (cI (I1 ++ (k, u) :: I3)).set (I1.length * 2 + 1) (.slice v.a v.n v.c) = cI (I1 ++ (k, v) :: I3)
  | [], k, u, v, I3 => rfl
  | x :: I1, k, u, v, I3 => by
    have := cI_setV I1 k u v I3
    simp only [List.cons_append, cI_cons, List.length_cons]
    rw [show (I1.length + 1) * 2 + 1 = I1.length * 2 + 1 + 1 + 1 by omega, List.set_cons_succ, List.set_cons_succ, this]
/-- A value set in its place. -/
theorem Store.setV {w : World} {M : Nat → Option Nd} {q : Nat} {n : Nd} {I1 I3 : List It} {k : ByteArray} {u : Vl} (v : Vl) (h : Store w M) (hq : M q = some n) (hI : n.its = I1 ++ (k, u) :: I3) {g c : Nat} (hv : n.iv = .slice (some ⟨g, 0, none⟩) (I1.length + I3.length + 1) c) :
    Store (w.setCell ⟨g, I1.length * 2 + 1, none⟩ (.slice v.a v.n v.c)) (upd M q { n with its := I1 ++ (k, v) :: I3 }) ∧ Ext (Own M) (Own (upd M q { n with its := I1 ++ (k, v) :: I3 })) w (w.setCell ⟨g, I1.length * 2 + 1, none⟩ (.slice v.a v.n v.c)) := by
  have hl : n.its.length = I1.length + I3.length + 1 := by rw [hI]; simp; omega
  obtain ⟨g', c', cur, e, hg, h1, h2, h3, h4⟩ := row_open (h.its q n hq) (by omega)
  rw [hv, hl] at e
  simp only [Value.slice.injEq, Option.some.injEq, Addr.mk.injEq] at e
  obtain ⟨⟨rfl, _⟩, _, rfl⟩ := e
  refine h.setRowI hq (by rw [hv, hl]) (by rw [hl]; simp; omega) ⟨h1, h2, ?_⟩ ?_ (heap_set (.slice v.a v.n v.c) hg) (fun k hk => heap_far _ hk) ⟨rfl, rfl, rfl, size_set _ _ _⟩
  · simpa using h3
  · rw [Array.toList_setIfInBounds, List.take_set, h4, hI, cI_setV]
/-- What lies on both sides of a child. -/
theorem weave_cut : ∀ (J1 : List It) (y : It) (J2 : List It) (A B : List (List It)), A.length = J1.length + 1 → weave (J1 ++ y :: J2) (A ++ B) = weave J1 A ++ y :: weave J2 B
  | [], y, J2, [a], B, _ => by simp [weave]
  | x :: J1, y, J2, a :: A, B, h => by
    simp only [List.cons_append, weave, weave_cut J1 y J2 A B (by simpa using h), List.append_assoc]
theorem eight {its : List It} (h : its.length = 8) : ∃ J1 y J2, its = J1 ++ y :: J2 ∧ J1.length = 4 ∧ J2.length = 3 := by
  refine ⟨its.take 4, its[4], its.drop 5, ?_, by rw [List.length_take]; omega, by rw [List.length_drop]; omega⟩
  rw [← List.drop_eq_getElem_cons, List.take_append_drop]
/-- splitChild, as a tree. -/
def SplitN (M : Nat → Option Nd) (h q len : Nat) (l : List It) (F : Nat → Prop) (w : World) (e : Ending) (w' : World) : Prop := e = .returned (.tuple #[]) ∧ ∃ M' F', Kept M M' F F' w w' ∧ Nod M' (h + 1) len len q l F'
theorem split_ {w : World} {M : Nat → Option Nd} {h q c : Nat} {n : Nd} {I1 I2 : List It} {K1 K2 : List Nat} {L1 L2 : List (List It)} {l : List It} {F1 Fc F2 : Nat → Prop} (hs : Store w M) (hq : M q = some n) (hI : n.its = I1 ++ I2) (hK : n.ks = K1 ++ c :: K2) (hIK : I1.length = K1.length) (hIK2 : I2.length = K2.length) (hn : n.its.length ≤ 100)
    (k1 : Kids (Nod M h 3 7) K1 L1 F1) (kc : Nod M h 8 8 c l Fc) (k2 : Kids (Nod M h 3 7) K2 L2 F2) (d1 : ∀ x, F1 x → ¬ Fc x) (d2 : ∀ x, F1 x → ¬ F2 x) (d3 : ∀ x, Fc x → ¬ F2 x) (q1 : ¬ F1 q) (qc : ¬ Fc q) (q2 : ¬ F2 q) :
    Calls Tryz.prog 52 #[.pointer (some ⟨q, 0, none⟩), .int .i64 I1.length] w (SplitN M h q (n.its.length + 1) (pre I1 L1 ++ (l ++ suf I2 L2)) (fun x => x = q ∨ F1 x ∨ Fc x ∨ F2 x) w) := by
  have l1 := k1.len
  have l2 := k2.len
  have lt1 := k1.lt hs
  have ltc := kc.lt hs
  have lt2 := k2.lt hs
  have ltq := hs.node_lt hq
  have hnl : n.its.length = I1.length + I2.length := by rw [hI]; simp
  cases h with
  | zero => exact kc.elim
  | succ h =>
    obtain ⟨nc, ls, Fk, hc, b1, b2, b3, b4, kk, rfl, hcn, hF⟩ := kc
    have hqc : q ≠ c := fun e => qc ((hF q).2 (.inl e))
    obtain ⟨J1, y, J2, hJ, hJ1, hJ2⟩ := eight (show nc.its.length = 8 by omega)
    have fin : ∀ (C1 C2 : List Nat) (la lb : List (List It)) (FA FB : Nat → Prop), ls = la ++ lb → Kids (Nod M h 3 7) C1 la FA → Kids (Nod M h 3 7) C2 lb FB → (∀ x, FA x → ¬ FB x) → (∀ x, Fk x ↔ FA x ∨ FB x) → weave nc.its ls = weave J1 la ++ y :: weave J2 lb → (h = 0 → C1 = [] ∧ C2 = []) → (h ≠ 0 → C1.length = 5 ∧ C2.length = 4) → ∀ e w', SplitTo w M q c (I1 ++ y :: I2) K1 K2 J1 C1 J2 C2 e w' → SplitN M (h + 1) q (n.its.length + 1) (pre I1 L1 ++ (weave nc.its ls ++ suf I2 L2)) (fun x => x = q ∨ F1 x ∨ Fc x ∨ F2 x) w e w' := by
      intro C1 C2 la lb FA FB hls kA kB dAB hFk hw hz hnz e w' hsp
      obtain ⟨he, M', r, hS⟩ := hsp
      obtain ⟨nq, hnq, eq1, eq2⟩ := hS.atq
      obtain ⟨ncx, hncx, ec1, ec2⟩ := hS.atc
      obtain ⟨nr, hnr, er1, er2⟩ := hS.atr
      have hrn := hS.new
      have Fcx : ∀ x, Fk x → Fc x := fun x hx => (hF x).2 (.inr hx)
      have sA : ∀ x, FA x → Fk x := fun x hx => (hFk x).2 (.inl hx)
      have sB : ∀ x, FB x → Fk x := fun x hx => (hFk x).2 (.inr hx)
      have keep : ∀ G : Nat → Prop, (∀ x, G x → x < w.heap.size) → (¬ G q) → (¬ G c) → ∀ x, G x → M' x = M x := fun G g1 g2 g3 x hx => hS.rest x (fun e => g2 (e ▸ hx)) (fun e => g3 (e ▸ hx)) (fun e => by have := g1 x hx; omega)
      have ltA : ∀ x, FA x → x < w.heap.size := kA.lt hs
      have ltB : ∀ x, FB x → x < w.heap.size := kB.lt hs
      have nodc : Nod M' (h + 1) 3 7 c (weave J1 la) (fun x => x = c ∨ FA x) := by
        refine ⟨ncx, la, FA, hncx, by rw [ec1]; omega, by rw [ec1]; omega, fun z => by rw [ec2]; exact (hz z).1, fun z => by rw [ec2, ec1, (hnz z).1]; omega, ?_, by rw [ec1], fun q => hcn (sA c q), fun x => Iff.rfl⟩
        rw [ec2]
        exact kA.frame (keep FA ltA (fun q => qc (Fcx _ (sA _ q))) (fun q => hcn (sA c q)))
      have nodr : Nod M' (h + 1) 3 7 r (weave J2 lb) (fun x => x = r ∨ FB x) := by
        refine ⟨nr, lb, FB, hnr, by rw [er1]; omega, by rw [er1]; omega, fun z => by rw [er2]; exact (hz z).2, fun z => by rw [er2, er1, (hnz z).2]; omega, ?_, by rw [er1], fun q => by have := ltB r q; omega, fun x => Iff.rfl⟩
        rw [er2]
        exact kB.frame (keep FB ltB (fun q => qc (Fcx _ (sB _ q))) (fun q => hcn (sB c q)))
      have cF : Fc c := (hF c).2 (.inl rfl)
      have kk1 := k1.frame (keep F1 lt1 q1 (fun q => d1 c q cF))
      have kk2 := k2.frame (keep F2 lt2 q2 (fun q => d3 c cF q))
      have kids := kids_two kk1 nodc nodr kk2 (fun x hx q => q.elim (fun e => d1 x hx (e ▸ cF)) (fun q => d1 x hx (Fcx x (sA x q)))) (fun x hx q => q.elim (fun e => by have := lt1 x hx; omega) (fun q => d1 x hx (Fcx x (sB x q)))) d2 (fun x hx q => hx.elim (fun e => d3 x (e ▸ cF) q) (fun g => d3 x (Fcx x (sA x g)) q)) (fun x hx q => hx.elim (fun e => by have := lt2 x q; omega) (fun g => d3 x (Fcx x (sB x g)) q)) (fun x hx q => hx.elim (fun e => q.elim (fun e' => by have := ltc c cF; omega) (fun g => hcn (e ▸ sB x g))) (fun g => q.elim (fun e' => by have := ltA x g; omega) (dAB x g)))
      refine ⟨he, M', fun x => x = q ∨ (F1 x ∨ (x = c ∨ FA x) ∨ (x = r ∨ FB x) ∨ F2 x), ⟨hS.st, hS.ext, fun k hk hno => hS.rest k (fun e => hno (.inl e)) (fun e => hno (.inr (.inr (.inl (e ▸ cF))))) (by omega), fun k hk => ?_⟩, nq, L1 ++ weave J1 la :: weave J2 lb :: L2, _, hnq, ?_, ?_, fun z => by omega, fun _ => ?_, ?_, ?_, ?_, fun x => Iff.rfl⟩
      · rcases hk with rfl | g | (rfl | g) | (rfl | g) | g
        · exact .inl (.inl rfl)
        · exact .inl (.inr (.inl g))
        · exact .inl (.inr (.inr (.inl cF)))
        · exact .inl (.inr (.inr (.inl (Fcx _ (sA _ g)))))
        · exact .inr hrn
        · exact .inl (.inr (.inr (.inl (Fcx _ (sB _ g)))))
        · exact .inl (.inr (.inr (.inr g)))
      · rw [eq1, hnl]; simp; omega
      · rw [eq1, hnl]; simp; omega
      · rw [eq1, eq2]; simp; omega
      · rw [eq2]; exact kids
      · rw [eq1, hw, weave_at I1 (y :: I2) L1 (weave J1 la) (weave J2 lb :: L2) (by omega) (by simp; omega), suf_cons]
        simp
      · rintro (g | (g | g) | (g | g) | g)
        · exact q1 g
        · exact hqc g
        · exact qc (Fcx _ (sA _ g))
        · omega
        · exact qc (Fcx _ (sB _ g))
        · exact q2 g
    by_cases hz : h = 0
    · have hks := b3 hz
      rw [hks] at kk
      obtain ⟨rfl, hno⟩ := kk.nil
      refine (split_leaf hs hq hc hqc hI hK hIK (by omega) (by rw [hK]; simp; omega) hJ hJ1 hJ2 hks).mono fun e w' hsp => fin [] [] [] [] (fun _ => False) (fun _ => False) rfl kids_nil kids_nil (fun _ q _ => q) (fun x => ⟨fun q => (hno x q).elim, fun q => q.elim False.elim False.elim⟩) (by rw [weave_nil, weave_nil, weave_nil, hJ]) (fun _ => ⟨rfl, rfl⟩) (fun z => (z hz).elim) e w' hsp
    · have hks := b4 hz
      have e1 : nc.ks = nc.ks.take 5 ++ nc.ks.drop 5 := (List.take_append_drop 5 _).symm
      have t1 : (nc.ks.take 5).length = 5 := by rw [List.length_take]; omega
      have t2 : (nc.ks.drop 5).length = 4 := by rw [List.length_drop]; omega
      rw [e1] at kk
      obtain ⟨la, lb, FA, FB, rfl, kA, kB, dAB, hFk⟩ := kk.split
      have la5 := kA.len
      refine (split_inner hs hq hc hqc hI hK hIK (by omega) (by rw [hK]; simp; omega) hJ hJ1 hJ2 e1 t1 t2).mono fun e w' hsp => fin _ _ la lb FA FB rfl kA kB dAB hFk (by rw [hJ]; exact weave_cut J1 y J2 la lb (by omega)) (fun z => (hz z).elim) (fun _ => ⟨t1, t2⟩) e w' hsp
end Go.Proofs.YtagamkahfiackaaGreatDoor
