/- The walk of table's guess. -/
import Derived.Test.YtlgnllnjhpihdaaDoorTbGCol
namespace Go.Proofs.YtlgnllnjhpihdaaDoor
open Go.RowKit Go.Sort

theorem cell_other {w : World} {B o : Nat} {u : Value} {p : Addr} (h : p.block ≠ B) : (w.setCell ⟨B, o, none⟩ u).cell? p = w.cell? p := World.cell?_of_block (w := w) (Below.heap_setCell w ⟨B, o, none⟩ u p.block h)
theorem frozen_other {w : World} {B o : Nat} {u : Value} {p : Addr} (h : p.block ≠ B) : (w.setCell ⟨B, o, none⟩ u).frozen? p = w.frozen? p := World.frozen?_of_block (w := w) (Below.heap_setCell w ⟨B, o, none⟩ u p.block h)
theorem TbB.other {w : World} {B C o : Nat} {u : Value} {nm : ByteArray} {lv : Value} (h : TbB w B nm lv) (hne : B ≠ C) : TbB (w.setCell ⟨C, o, none⟩ u) B nm lv := by
  obtain ⟨h0, h1, f0, f1⟩ := h
  exact ⟨(cell_other hne).trans h0, (cell_other hne).trans h1, (frozen_other hne).trans f0, (frozen_other hne).trans f1⟩
theorem OwnC.set {w : World} {N B o : Nat} {u v : Value} {vs : List Col} (h : OwnC w N v vs) (hB : B < N) : OwnC (w.setCell ⟨B, o, none⟩ u) N v vs := by
  refine ⟨h.1, ?_⟩
  rcases h.2 with h1 | ⟨g, cap, cur, e, h1, h2, h3, h4, h5, h6⟩
  · exact .inl h1
  · exact .inr ⟨g, cap, cur, e, h1, (Below.heap_setCell w ⟨B, o, none⟩ u g (by show g ≠ B; omega)).trans h2, h3, h4, h5, h6⟩
theorem OwnC.cap {w : World} {N : Nat} {a : Option Addr} {n c : Nat} {vs : List Col} (h : OwnC w N (.slice a n c) vs) : n = vs.length ∧ n ≤ c ∧ (a = none → c = 0) ∧ ∀ b o, a = some ⟨b, o, none⟩ → N ≤ b := by
  obtain ⟨a', c', e, _, hn⟩ := h.cols
  simp only [Value.slice.injEq] at e
  obtain ⟨rfl, rfl, rfl⟩ := e
  refine ⟨rfl, ?_, hn, fun b o e => ?_⟩
  rcases h.2 with ⟨e, h0⟩ | ⟨g, cap, cur, e, _, _, h3, _⟩
  · rw [h0]; exact Nat.zero_le _
  · simp only [Value.slice.injEq] at e
    obtain ⟨_, _, rfl⟩ := e
    exact h3
  · exact (World.ownsRow.lt h b (by rw [e]; rfl)).1
/-- What stays while a table is guessed. -/
structure Gs (w : World) (B2 g N : Nat) (ps : List (List UInt8)) (wr : World) : Prop where
  b2 : TbB wr B2 ⟨#[]⟩ (.slice none 0 0)
  ts : TextsIn wr g ps
  bw : Below w.heap.size w wr
  sz : N ≤ wr.heap.size
theorem Gs.on {w wr w' : World} {B2 g N : Nat} {ps : List (List UInt8)} (h : Gs w B2 g N ps wr) (hb : Below wr.heap.size wr w') : Gs w B2 g N ps w' :=
  ⟨h.b2.on hb, h.ts.on hb, below_step h.bw hb, Nat.le_trans h.sz hb.size⟩
theorem Gs.grown {w wr w' : World} {B2 g N : Nat} {ps : List (List UInt8)} {row : Option Nat} (h : Gs w B2 g N ps wr) (h2 : B2 < N) (hg : g < N) (hN : w.heap.size ≤ N) (hgr : wr.grownBy w' row) (hr : ∀ k, row = some k → N ≤ k) : Gs w B2 g N ps w' := by
  have hb : Below N wr w' := (Below.refl _ _).grown hgr h.sz hr
  exact ⟨h.b2.grown hgr (fun k hk => Nat.lt_of_lt_of_le h2 (hr k hk)), fun j hj => (hb.cell hg).trans (h.ts j hj), h.bw.trans (hb.mono hN), Nat.le_trans h.sz hb.size⟩
theorem Gs.set {w wr : World} {B2 g N B o : Nat} {u : Value} {ps : List (List UInt8)} (h : Gs w B2 g N ps wr) (h2 : B2 ≠ B) (hg : g ≠ B) (hB : w.heap.size ≤ B) : Gs w B2 g N ps (wr.setCell ⟨B, o, none⟩ u) :=
  ⟨h.b2.other h2, fun j hj => (cell_other hg).trans (h.ts j hj), h.bw.setCell hB _, by
    have hb : Below 0 wr (wr.setCell ⟨B, o, none⟩ u) := ((Below.refl _ _).setCell (Nat.zero_le _) _)
    exact Nat.le_trans h.sz hb.size⟩
/-- strings.SplitN at a comma and a blank. -/
theorem splitC_ (s : ByteArray) (w : World) (hs : s.size < 4294967281) (hm : MaxAt w) :
    Calls Tryd.prog 56 #[.string s, .string ⟨#[44, 32]⟩, .int .i64 17] w fun e w' => ∃ c, e = .returned (.slice (some ⟨w.heap.size, 0, none⟩) (Lib.splitN (lst s) [44, 32] 17).length c) ∧ TextsIn w' w.heap.size (Lib.splitN (lst s) [44, 32] 17) ∧ w.heap.size + 1 ≤ w'.heap.size ∧ Below w.heap.size w w' := by
  obtain ⟨m, hm⟩ := hm
  have hd : (Lib.splitB ⟨#[44, 32]⟩ 0 (min 17 (s.size + 1) - 1) s).map (·.data.toList) = Lib.splitN (lst s) [44, 32] 17 := by
    rw [Lib.splitB_data, Lib.splitN, size_lst]; rfl
  have hlen : (Lib.splitN (lst s) [44, 32] 17).length = (Lib.splitB ⟨#[44, 32]⟩ 0 (min 17 (s.size + 1) - 1) s).length := by rw [← hd, List.length_map]
  refine (Tryd.strings_SplitN s ⟨#[44, 32]⟩ 17 m w hs hm (by decide) (by decide) (by decide)).mono fun e w' ⟨he, hw⟩ => ⟨min 17 (s.size + 1), by rw [hlen]; exact he, ?_, by rw [hw]; simp, by rw [hw]; exact below_alloc1 _ _⟩
  intro j hj
  have hj2 : j < (Lib.splitB ⟨#[44, 32]⟩ 0 (min 17 (s.size + 1) - 1) s).length := by rw [← hlen]; exact hj
  have hel : ofL (Lib.splitN (lst s) [44, 32] 17)[j] = (Lib.splitB ⟨#[44, 32]⟩ 0 (min 17 (s.size + 1) - 1) s)[j] := by
    have : (Lib.splitN (lst s) [44, 32] 17)[j] = lst (Lib.splitB ⟨#[44, 32]⟩ 0 (min 17 (s.size + 1) - 1) s)[j] := by
      simp only [← hd, List.getElem_map]; rfl
    rw [this, ofL_lst]
  rw [hw, hel, World.cell?_alloc_new]
  simp only [Lib.cellsOf, List.getElem?_toArray]
  rw [List.getElem?_append_left (by simpa using hj2)]
  simp [List.getElem?_eq_getElem hj2]
theorem splitK_len (sep : List UInt8) : ∀ (k : Nat) (s : List UInt8), (Lib.splitK sep 0 k s).length ≤ k + 1
  | 0, _ => Nat.le_refl _
  | k + 1, s => by
    unfold Lib.splitK
    split
    · simp
    · have := splitK_len sep k (s.drop ((Lib.index s sep).toNat + sep.length))
      simp only [List.length_cons]; omega
theorem splitK_mem (sep : List UInt8) : ∀ (k : Nat) (s : List UInt8), ∀ p ∈ Lib.splitK sep 0 k s, p.length ≤ s.length
  | 0, s, p, h => by
    simp only [Lib.splitK, List.mem_singleton] at h
    rw [h]; exact Nat.le_refl _
  | k + 1, s, p, h => by
    unfold Lib.splitK at h
    split at h
    · simp only [List.mem_singleton] at h
      rw [h]; exact Nat.le_refl _
    · rw [List.mem_cons] at h
      rcases h with rfl | h
      · rw [List.length_take]; omega
      · have := splitK_mem sep k _ p h
        rw [List.length_drop] at this
        omega
theorem trimP_len (s p : List UInt8) : (Lib.trimPrefix s p).length ≤ s.length := by
  unfold Lib.trimPrefix
  split
  · rw [List.length_drop]; omega
  · exact Nat.le_refl _
theorem trimS_len (s p : List UInt8) : (Lib.trimSuffix s p).length ≤ s.length := by
  unfold Lib.trimSuffix
  split
  · rw [List.length_take]; omega
  · exact Nat.le_refl _
/-- What guess hands back. -/
def GuessTo (w : World) (t : Tab) (e : Ending) (w' : World) : Prop :=
  ∃ a n c, e = .returned (.agg #[.string t.nm, .slice a n c]) ∧ n = t.cs.length ∧ ColsIn w' a t.cs ∧ n ≤ c ∧ (a = none → c = 0) ∧ (∀ b o, a = some ⟨b, o, none⟩ → w.heap.size ≤ b) ∧ Below w.heap.size w w'
set_option maxRecDepth 100000 in
set_option maxHeartbeats 1000000 in
theorem guess_ (s : ByteArray) (w : World) (hs : s.size < 4294967281) (hm : MaxAt w) : Calls Tryd.prog 39 #[.string s] w (GuessTo w (gPro (lst s))) := by
  obtain ⟨P0, hP0⟩ : ∃ P0, P0 = Lib.trimPrefix (lst s) headW := ⟨_, rfl⟩
  obtain ⟨P1, hP1⟩ : ∃ P1, P1 = (Lib.cut P0 [32, 40]).1 := ⟨_, rfl⟩
  obtain ⟨P2, hP2⟩ : ∃ P2, P2 = (Lib.cut P0 [32, 40]).2.1 := ⟨_, rfl⟩
  obtain ⟨P3, hP3⟩ : ∃ P3, P3 = (Lib.cut P0 [32, 40]).2.2 := ⟨_, rfl⟩
  obtain ⟨P4, hP4⟩ : ∃ P4, P4 = Lib.trimSuffix P2 [41] := ⟨_, rfl⟩
  obtain ⟨ps, hps⟩ : ∃ ps, ps = Lib.splitN P4 [44, 32] 17 := ⟨_, rfl⟩
  have l0 : P0.length ≤ s.size := by rw [hP0, size_lst]; exact trimP_len _ _
  have l2 : P2.length ≤ s.size := by rw [hP2]; exact Nat.le_trans (cut_lens P0 [32, 40]).2 l0
  have l4 : P4.length ≤ s.size := by rw [hP4]; exact Nat.le_trans (trimS_len _ _) l2
  have lp : ∀ p ∈ ps, p.length ≤ s.size := fun p hp => by rw [hps] at hp; exact Nat.le_trans (splitK_mem _ _ _ p hp) l4
  have ln : ps.length ≤ 17 := by rw [hps]; exact Nat.le_trans (splitK_len _ _ _) (by omega)
  have hG : gPro (lst s) = ⟨ofL P1, ps.map gCol⟩ := by rw [hps, hP4, hP2, hP1, hP0]; rfl
  rw [hG]
  have HTP : Hid (∀ W, Calls Tryd.prog 55 #[.string s, .string ⟨#[84, 65, 66, 76, 69, 32]⟩] W fun e w' => e = .returned (.string (ofL P0)) ∧ w' = W) := fun W => by
    rw [hP0]; exact Tryd.strings_TrimPrefix s ⟨#[84, 65, 66, 76, 69, 32]⟩ W
  have HCt : Hid (∀ W, Below w.heap.size w W → Calls Tryd.prog 54 #[.string (ofL P0), .string ⟨#[32, 40]⟩] W fun e w' => e = .returned (.tuple #[.string (ofL P1), .string (ofL P2), .bool P3]) ∧ Below W.heap.size W w') := fun W hW => by
    obtain ⟨m, hm⟩ := hm.on hW
    have := Tryd.strings_Cut (ofL P0) ⟨#[32, 40]⟩ m W (by rw [size_lst, lst_ofL]; omega) hm
    rw [show (ofL P0).data.toList = P0 from lst_ofL P0, show (⟨#[32, 40]⟩ : ByteArray).data.toList = [32, 40] from rfl, ← hP1, ← hP2, ← hP3] at this
    exact this.mono fun e w' ⟨he, n, hw⟩ => ⟨he, hw ▸ ⟨rfl, rfl, rfl, Nat.le_refl _, fun _ _ => rfl⟩⟩
  have HTS : Hid (∀ W, Calls Tryd.prog 57 #[.string (ofL P2), .string ⟨#[41]⟩] W fun e w' => e = .returned (.string (ofL P4)) ∧ w' = W) := fun W => by
    have := Tryd.strings_TrimSuffix (ofL P2) ⟨#[41]⟩ W (by rw [size_lst, lst_ofL]; omega)
    rw [show (ofL P2).data.toList = P2 from lst_ofL P2, show (⟨#[41]⟩ : ByteArray).data.toList = [41] from rfl, ← hP4] at this
    exact this
  have HSp : Hid (∀ W, Below w.heap.size w W → Calls Tryd.prog 56 #[.string (ofL P4), .string ⟨#[44, 32]⟩, .int .i64 17] W fun e w' => ∃ c, e = .returned (.slice (some ⟨W.heap.size, 0, none⟩) ps.length c) ∧ TextsIn w' W.heap.size ps ∧ W.heap.size + 1 ≤ w'.heap.size ∧ Below W.heap.size W w') := fun W hW => by
    have := splitC_ (ofL P4) W (by rw [size_lst, lst_ofL]; omega) (hm.on hW)
    rwa [lst_ofL, ← hps] at this
  have HGc : Hid (∀ W i (hi : i < ps.length) cn kc ky nl, gCol ps[i] = ⟨cn, kc, ky, nl⟩ → Below w.heap.size w W → Calls Tryd.prog 58 #[.string (ofL ps[i])] W fun e w' => e = .returned (.agg #[.string cn, .int .i64 kc, .bool ky, .bool nl]) ∧ Below W.heap.size W w') := fun W i hi cn kc ky nl he hW => by
    have := guessColumn_ (ofL ps[i]) W (by rw [size_lst, lst_ofL]; exact Nat.lt_of_le_of_lt (lp _ (List.getElem_mem hi)) hs) (hm.on hW)
    rwa [lst_ofL, he] at this
  obtain ⟨L, hL⟩ : ∃ L, ps.length = L := ⟨_, rfl⟩
  have HL := Lib.hid hL
  unfold GuessTo
  rw [hL] at HSp ln
  clear l0 l2 l4 lp hG hP0 hP1 hP2 hP3 hP4 hps hs hm hL
  obtain ⟨nm, hnm⟩ : ∃ nm, nm = ofL P1 := ⟨_, rfl⟩
  rw [← hnm] at HCt
  rw [show (⟨ofL P1, ps.map gCol⟩ : Tab).nm = nm from hnm.symm, show (⟨ofL P1, ps.map gCol⟩ : Tab).cs = ps.map gCol from rfl]
  clear hnm
  generalize ofL P0 = Q0 at *
  generalize ofL P2 = Q2 at *
  generalize ofL P4 = Q4 at *
  obtain ⟨W1, hW1⟩ : ∃ W1, W1 = w.alloc (.cells #[.string ⟨#[]⟩, .slice none 0 0] 24) := ⟨_, rfl⟩
  have HB1 : Hid (Below w.heap.size w W1) := by show Below _ _ _; rw [hW1]; exact below_alloc1 _ _
  have HT1 : Hid (TbB W1 w.heap.size ⟨#[]⟩ (.slice none 0 0)) := by show TbB _ _ _ _; rw [hW1]; exact tbB_new _ _ _ _ _ _
  have HW1 := Lib.hid hW1.symm
  clear hW1
  go_enter Tryd.func39, Tryd.ntmps39
  go_wp2_with fail
  rw [HW1.out]
  refine (HTP.out _).mono ?_
  rintro e w1 ⟨rfl, rfl⟩
  go_wp2_with fail
  refine (HCt.out _ HB1.out).mono ?_
  rintro e w2 ⟨rfl, hb2⟩
  have HB2 := Lib.hid (below_step HB1.out hb2)
  have HT2 := Lib.hid (HT1.out.on hb2)
  clear hb2 HTP HCt
  obtain ⟨W3, hW3⟩ : ∃ W3, W3 = w2.alloc (.cells #[.string nm, .slice none 0 0] 24) := ⟨_, rfl⟩
  have hB3 : Below w2.heap.size w2 W3 := by rw [hW3]; exact below_alloc1 _ _
  have HT6 : Hid (TbB W3 w2.heap.size nm (.slice none 0 0)) := by show TbB _ _ _ _; rw [hW3]; exact tbB_new _ _ _ _ _ _
  have HT3 := Lib.hid (HT2.out.on hB3)
  have HB3 := Lib.hid (below_step HB2.out hB3)
  have HW3 := Lib.hid hW3.symm
  obtain ⟨B6, hB6⟩ : ∃ B6, w2.heap.size = B6 := ⟨_, rfl⟩
  have HB6 : Hid (w.heap.size < B6) := by show _ < _; rw [← hB6]; exact HT2.out.lt
  clear hW3 hB3 HB2 HT2
  rw [hB6] at HT6
  go_wp2_with fail
  rw [HW3.out]
  refine (HTS.out _).mono ?_
  rintro e w4 ⟨rfl, rfl⟩
  go_wp2_with fail
  refine (HSp.out _ HB3.out).mono ?_
  rintro e w5 ⟨c5, rfl, ht5, hs5, hb5⟩
  obtain ⟨N, hN⟩ : ∃ N, w5.heap.size = N := ⟨_, rfl⟩
  obtain ⟨g, hg⟩ : ∃ g, w4.heap.size = g := ⟨_, rfl⟩
  have hlg : B6 < g := by rw [← hg]; exact HT6.out.lt
  have HD : Hid (w.heap.size < B6 ∧ B6 < g ∧ g < N) := ⟨HB6.out, hlg, by omega⟩
  have HG5 : Hid (Gs w w.heap.size g N ps w5) := ⟨HT3.out.on hb5, by rw [← hg]; exact ht5, below_step HB3.out hb5, by rw [hN]; exact Nat.le_refl _⟩
  have HT5 := Lib.hid (HT6.out.on hb5)
  clear ht5 hs5 hb5 HTS HSp HT3 HB3 HW3 HT6 HB6 hlg hN
  rw [hg]
  clear hg
  go_wp2_with fail
  go_loopw [8, 22] (fun s8 iv wr => ∃ (i : Nat) (a : Option Addr) (n c : Nat), i ≤ L ∧ iv = .int .i64 i ∧ Hid (TbB wr B6 nm (.slice a n c)) ∧ Hid (OwnC wr N (.slice a n c) ((ps.take i).map gCol)) ∧ Hid (Gs w w.heap.size g N ps wr)) (fun _ iv _ => L - (intOf iv).toNat)
  case atStart => exact ⟨0, none, 0, 0, Nat.zero_le _, rfl, HT5, ownC_nil _ _, HG5⟩
  case round =>
    obtain ⟨i, a, n, c, hi, rfl, HTb, HO, HG⟩ := hrel
    by_cases hlt : i < L
    · have hlt2 : (i : Int) < (L : Int) := by omega
      have hi1 : i < ps.length := by rw [HL.out]; exact hlt
      have ct := HG.out.ts i hi1
      obtain ⟨cn, kc, ky, nl, hgc⟩ : ∃ cn kc ky nl, gCol ps[i] = ⟨cn, kc, ky, nl⟩ := ⟨_, _, _, _, rfl⟩
      have HGi : Hid (∀ W, Below w.heap.size w W → Calls Tryd.prog 58 #[.string (ofL ps[i])] W fun e w' => e = .returned (.agg #[.string cn, .int .i64 kc, .bool ky, .bool nl]) ∧ Below W.heap.size W w') := fun W hW => HGc.out W i hi1 cn kc ky nl hgc hW
      have HTk : Hid ((ps.take (i + 1)).map gCol = (ps.take i).map gCol ++ [⟨cn, kc, ky, nl⟩]) := by
        show _ = _
        rw [List.take_add_one, List.getElem?_eq_getElem hi1, ← hgc, List.map_append]
        rfl
      have hml : (((ps.take i).map gCol).length + 1) * 32 ≤ 140737488355328 := by rw [List.length_map, List.length_take]; omega
      have HTs : Hid ((ps.take i).map gCol = (ps.take i).map gCol) := rfl
      generalize ofL ps[i] = PI at *
      generalize (ps.take i).map gCol = CS at *
      clear hgc hi1 HTs
      go_wp2_with fail
      have HC0 := Lib.hid (HTb.out.on (below_drew wr)).2.1
      have HTd := Lib.hid (HTb.out.on (below_drew wr))
      have HOd := Lib.hid (HO.out.on (below_drew wr))
      have HGd := Lib.hid (HG.out.on (below_drew wr))
      clear HTb HO HG ct
      refine wp_region_noPanic ?_
      refine region_ph (A := fun _ => True) (e1 := 7) (B := (fun V => V.cell? ⟨B6, 1, none⟩ = some (.slice a n c))) (e2 := 9999) (C := (fun _ => True)) (by kernel_rfl) (⟨trivial, fun _ => HC0.out, fun _ => trivial⟩) (fun hSt => ?_)
      refine take_ph 0 (.pointer (some ⟨B6, 1, none⟩)) [] rfl (by kernel_rfl) (fun _ _ _ h => h) (Or.inl ⟨by rfl, ?_⟩) hSt (fun hSn => ?_)
      · intro V _; go_simp
      clear hSt; rename Ph _ _ _ _ _ _ _ => hSt
      simp only [Act.put, List.setIfInBounds_toArray, List.set_cons_zero, List.set_cons_succ]
      refine take_ph 1 (.slice a n c) [7] rfl (by kernel_rfl) (fun _ _ _ h => h) (Or.inl ⟨by rfl, ?_⟩) hSt (fun hSn => ?_)
      · rintro V ⟨_, hB, hC⟩; have hh := hB (by decide); have e0 := hh; clear hB hC; go_simp
      clear hSt; rename Ph _ _ _ _ _ _ _ => hSt
      simp only [Act.put, List.setIfInBounds_toArray, List.set_cons_zero, List.set_cons_succ]
      refine take_ph 2 (.string PI) [] rfl (by kernel_rfl) (fun _ _ _ h => h) (Or.inl ⟨by rfl, ?_⟩) hSt (fun hSn => ?_)
      · intro V _; go_simp
      clear hSt; rename Ph _ _ _ _ _ _ _ => hSt
      simp only [Act.put, List.setIfInBounds_toArray, List.set_cons_zero, List.set_cons_succ]
      have HGw := Lib.hid (HGi.out _ HGd.out.bw)
      refine ready_call_ph 3 rfl (by kernel_rfl) (fun KK hK => ?_)
      go_simp
      go_wp2_with (first | (go_at_call 58; refine HGw.out.mono ?_; rintro e V1 ⟨rfl, hb1⟩))
      refine hK.out _ _ ?_ (fun hSn => ?_)
      · exact ⟨trivial, fun _ => (HTd.out.on hb1).2.1, fun _ => trivial⟩
      clear hK KK hSt; rename Ph _ _ _ _ _ _ _ => hSt
      obtain ⟨U, hU⟩ : ∃ U, U = V1.alloc (.cells #[.string cn, .int .i64 kc, .bool ky, .bool nl] 55) := ⟨_, rfl⟩
      have hrb : Hid (∀ (a : Act) (o : Oper) (z : Operand), o.op = .buildSlice 22 1 #[(0, z)] → a.eval z = .agg #[.string cn, .int .i64 kc, .bool ky, .bool nl] → (execOp a.eval o).run Tryd.prog V1 = .ok (.value (.slice (some ⟨V1.heap.size, 0, none⟩) 1 1)) U) := fun a o z h1 h2 => by rw [hU]; exact run_buildC V1 ⟨cn, kc, ky, nl⟩ a o z h1 h2
      have hbu : Below V1.heap.size V1 U := by rw [hU]; exact below_alloc1 V1 _
      have hin : InC U V1.heap.size 0 ⟨cn, kc, ky, nl⟩ := by rw [hU]; exact inC_new V1 ⟨cn, kc, ky, nl⟩ 55
      have HTu := Lib.hid ((HTd.out.on hb1).on hbu)
      have HOu := Lib.hid ((HOd.out.on hb1).on hbu)
      have HGu := Lib.hid ((HGd.out.on hb1).on hbu)
      obtain ⟨a3, n3, c3, V3, hap, ho3, hgr⟩ := app_col HOu.out 22 hin hml HGu.out.sz
      have hown : ∀ k, (Value.slice a n c).ownBlock = some k → N ≤ k := fun k hk => (World.ownsRow.lt HOu.out k hk).1
      have HT3 := Lib.hid (HTu.out.grown hgr (fun k hk => by have := hown k hk; have := HD.out.2.1; have := HD.out.2.2; omega))
      have HG3 := Lib.hid (HGu.out.grown (by have := HD.out; omega) (by have := HD.out; omega) (by have := HD.out; omega) hgr hown)
      have hc3 := HT3.out.2.1
      have hst := store_cols (a := a3) (n := n3) (c := c3) HT3.out
      have HT4 := Lib.hid (tbB_set HT3.out (.slice a3 n3 c3))
      have HO4 : Hid (OwnC (V3.setCell ⟨B6, 1, none⟩ (.slice a3 n3 c3)) N (.slice a3 n3 c3) (CS ++ [⟨cn, kc, ky, nl⟩])) := ho3.set (by have := HD.out; omega)
      have HG4 : Hid (Gs w w.heap.size g N ps (V3.setCell ⟨B6, 1, none⟩ (.slice a3 n3 c3))) := HG3.out.set (by have := HD.out; omega) (by have := HD.out; omega) (by have := HD.out; omega)
      have hcU := HTu.out.2.1
      clear hU hb1 hbu hin HTu HOu HGu ho3 hgr hown HT3 HG3 HGw HGi HTd HOd HGd HC0
      refine ready_ph 4 rfl (by kernel_rfl) rfl (.inl (hrb.out _ _ _ rfl rfl)) (⟨trivial, fun _ => hcU, fun _ => trivial⟩) (fun hSn => ?_)
      clear hSt; rename Ph _ _ _ _ _ _ _ => hSt
      simp only [Act.put, List.setIfInBounds_toArray, List.set_cons_zero, List.set_cons_succ]
      refine ready_ph 5 rfl (by kernel_rfl) rfl (.inl (exec_append rfl rfl rfl hap)) (⟨trivial, fun _ => hc3, fun _ => trivial⟩) (fun hSn => ?_)
      clear hSt; rename Ph _ _ _ _ _ _ _ => hSt
      simp only [Act.put, List.setIfInBounds_toArray, List.set_cons_zero, List.set_cons_succ]
      refine take_ph 6 (.pointer (some ⟨B6, 1, none⟩)) [] rfl (by kernel_rfl) (fun _ _ _ h => h) (Or.inl ⟨by rfl, ?_⟩) hSt (fun hSn => ?_)
      · intro V _; go_simp
      clear hSt; rename Ph _ _ _ _ _ _ _ => hSt
      simp only [Act.put, List.setIfInBounds_toArray, List.set_cons_zero, List.set_cons_succ]
      refine ready_store_ph 7 rfl (by kernel_rfl) rfl 22 _ _ rfl _ _ rfl rfl (hst) (⟨trivial, fun h => absurd (show true = false from h) (by decide), fun _ => trivial⟩) (fun hSn => ?_)
      clear hSt; rename Ph _ _ _ _ _ _ _ => hSt
      simp only [Act.put]
      refine done_ph (by kernel_rfl) ?_ _
      clear hSt
      refine NoPanic.normal ?_
      clear hap hrb hst hcU hc3
      generalize V3.setCell ⟨B6, 1, none⟩ (.slice a3 n3 c3) = V4 at *
      go_wp2_with fail
      go_roundw
      case rel => exact ⟨i + 1, a3, n3, c3, by omega, by go_num, HT4, by rw [HTk.out]; exact HO4, HG4⟩
      case measure => simp [intOf]; omega
    · obtain rfl : i = L := by omega
      rw [List.take_of_length_le (by rw [HL.out]; exact Nat.le_refl _)] at HO
      have HCp := Lib.hid HO.out.cap
      obtain ⟨r0, r1, _, _⟩ := HTb.out
      obtain ⟨s0, s1, f0, f1⟩ := HG.out.b2
      have HR : Hid (ColsIn ((wr.setCell ⟨w.heap.size, 0, none⟩ (.string nm)).setCell ⟨w.heap.size, 1, none⟩ (.slice a n c)) a (ps.map gCol)) := by
        obtain ⟨a', c', e, hc, _⟩ := ((HO.out.set (B := w.heap.size) (o := 0) (u := .string nm) (by have := HD.out; omega)).set (B := w.heap.size) (o := 1) (u := .slice a n c) (by have := HD.out; omega)).cols
        simp only [Value.slice.injEq] at e
        obtain ⟨rfl, _, _⟩ := e
        exact hc
      have HBr : Hid (Below w.heap.size w ((wr.setCell ⟨w.heap.size, 0, none⟩ (.string nm)).setCell ⟨w.heap.size, 1, none⟩ (.slice a n c))) := (HG.out.bw.setCell (Nat.le_refl _) _).setCell (Nat.le_refl _) _
      go_wp2_with fail
      refine bodyPost_ret (v := .agg #[.string nm, .slice a n c]) ?_ rfl ⟨a, n, c, rfl, HCp.out.1, HR.out, HCp.out.2.1, HCp.out.2.2.1, fun b o e => (by have := HCp.out.2.2.2 b o e; have := HD.out; omega), HBr.out⟩
      simp [results, Tryd.results39, go_sem, s0, s1]
end Go.Proofs.YtlgnllnjhpihdaaDoor
