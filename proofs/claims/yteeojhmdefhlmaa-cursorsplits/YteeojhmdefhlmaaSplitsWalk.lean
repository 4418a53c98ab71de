/- The walk of CursorSplits. -/
import Derived.Test.YteeojhmdefhlmaaCuGrown
import Derived.Test.YteeojhmdefhlmaaCuCount
import Derived.Test.YteeojhmdefhlmaaCuSure
namespace Go.Proofs.Yteeojhmdefhlmaa
open Go.RowKit Go.Sort

/-- Below a key, above it. -/
def belR (k : ByteArray) : Rg := ⟨⟨#[]⟩, k, false, true, false, true⟩
def aboR (k : ByteArray) : Rg := ⟨k, ⟨#[]⟩, true, false, true, false⟩
def anyR : Rg := ⟨⟨#[]⟩, ⟨#[]⟩, false, false, false, false⟩
theorem parts_len (r : Rg) (k : ByteArray) : ∀ l : List It, (selR (meetR r (belR k)) l).length + (selR (meetR r (oneR k)) l).length + (selR (meetR r (aboR k)) l).length = (selR r l).length
  | [] => rfl
  | x :: l => by
    have ih := parts_len r k l
    have hb : hasR (meetR r (belR k)) x.1 = (hasR r x.1 && ltb x.1 k) := by
      rw [has_meet]; congr 1; unfold hasR behR ahdR belR; simp
    have ho : hasR (meetR r (oneR k)) x.1 = (hasR r x.1 && sameb x.1 k) := by
      rw [has_meet]; congr 1; unfold hasR behR ahdR oneR
      rcases ltb_cases x.1 k with q | q | q
      · simp [q, ltb_asymm q, sameb_lt q]
      · rw [q]; simp [sameb_self]
      · simp [q, ltb_asymm q, sameb_gt q]
    have ha : hasR (meetR r (aboR k)) x.1 = (hasR r x.1 && ltb k x.1) := by
      rw [has_meet]; congr 1; unfold hasR behR ahdR aboR; simp
    unfold selR at ih ⊢
    simp only [List.filter_cons, hb, ho, ha]
    cases hasR r x.1 with
    | false => simpa using ih
    | true =>
      rcases ltb_cases x.1 k with q | q | q
      · simp [q, ltb_asymm q, sameb_lt q]; omega
      · rw [q]; simp [sameb_self, ltb_irrefl]; omega
      · simp [q, ltb_asymm q, sameb_gt q]; omega
theorem sel_any (l : List It) : selR anyR l = l := by
  unfold selR
  exact List.filter_eq_self.2 fun x _ => rfl
theorem Gr.count {W V : World} {p : Nat} {v : Value} {l : List It} (h : Gr W V p v l) (hl : l.length ≤ 200) (r : Rg) :
    Calls Try.prog 23 #[.pointer (some ⟨p, 0, none⟩), rgV r] V fun e w' => e = .returned (.int .i64 (selR r l).length) ∧ Below V.heap.size V w' := by
  obtain ⟨M, F, h1, h2⟩ := h.ex
  exact count_ h1.st h2 (by omega) r
theorem Gr.len {W V : World} {p : Nat} {v : Value} {l : List It} (h : Gr W V p v l) : Calls Try.prog 24 #[.pointer (some ⟨p, 0, none⟩)] V fun e w' => e = .returned (.int .i64 l.length) ∧ Below V.heap.size V w' := by
  obtain ⟨M, F, h1, h2⟩ := h.ex
  exact (len_ h2).mono fun e w' ⟨e1, e2⟩ => ⟨e1, by rw [e2]; exact Below.refl _ _⟩
set_option maxRecDepth 100000 in
set_option maxHeartbeats 4000000 in
theorem splits_walk {w : World} {a : Option Addr} {c : Nat} {ks : List ByteArray} (hx : Tx w a ks) (hz : ∀ x ∈ ks, x.size ≤ 1000000000000000000) (r : Rg) (k : ByteArray) :
    Calls Try.prog 6 #[.slice a ks.length c, rgV r, .string k] w fun e w' => e = .returned (.bool true) ∧ Below w.heap.size w w' := by
  obtain ⟨W0, hW0⟩ : ∃ W0, W0 = w.alloc (.cells #[.string r.f, .string r.t, .bool r.hf, .bool r.ht, .bool r.pf, .bool r.pt] 23) := ⟨_, rfl⟩
  have HBW : Hid (Below w.heap.size w W0) := by show Below _ _ _; rw [hW0]; exact below_alloc w _
  have HR0 : Hid (RgAt W0 w.heap.size r ∧ w.heap.size < W0.heap.size) := by
    rw [hW0]; exact ⟨rgAt_new w r _, by simp [go_sem]⟩
  have HGr := Lib.hid (grown_ (c := c) (hx.on HBW.out) hz)
  clear hx hz
  generalize ks.length = nk at *
  unfold rgV at *
  go_enter Try.func6, Try.ntmps6
  go_upto_region 1 with fail
  rw [← hW0]
  clear hW0
  generalize hn : w.heap.size = n at *
  have HNn := Lib.hid hn
  clear hn
  go_upto_region 4 with (first | (go_at_call 19; refine HGr.out.mono ?_; rintro e V0 ⟨p, v, rfl, l, HG⟩; clear HGr) | fail)
  have HB0 : Hid (Below n w V0) := HBW.out.trans (HG.out.1.below.mono (by have := HR0.out.2; omega))
  have hr0 : RgAt V0 n r := HR0.out.1.on HG.out.1.below HR0.out.2
  have HNV : Hid (n < V0.heap.size) := Nat.lt_of_lt_of_le HR0.out.2 HG.out.1.below.size
  unfold RgAt at hr0
  obtain ⟨x0, x1, x2, x3, x4, x5⟩ := hr0
  obtain ⟨B, hB⟩ : ∃ B, B = meetR r (belR k) := ⟨_, rfl⟩
  obtain ⟨A, hA⟩ : ∃ A, A = meetR r (aboR k) := ⟨_, rfl⟩
  obtain ⟨O1, hO1⟩ : ∃ A, A = oneR k := ⟨_, rfl⟩
  obtain ⟨O, hO⟩ : ∃ A, A = meetR r O1 := ⟨_, rfl⟩
  obtain ⟨nb, hnb⟩ : ∃ m, m = (selR B l).length := ⟨_, rfl⟩
  obtain ⟨na, hna⟩ : ∃ m, m = (selR A l).length := ⟨_, rfl⟩
  obtain ⟨no, hno⟩ : ∃ m, m = (selR O l).length := ⟨_, rfl⟩
  obtain ⟨nx, hnx⟩ : ∃ m, m = (selR r l).length := ⟨_, rfl⟩
  obtain ⟨nl, hnl⟩ : ∃ m, m = l.length := ⟨_, rfl⟩
  have hsum : nb + no + na = nx := by rw [hnb, hno, hna, hnx, hB, hO, hA, hO1]; exact parts_len r k l
  have hle : nx ≤ 200 := by rw [hnx]; exact Nat.le_trans (List.length_filter_le _ _) HG.out.2
  have C1 : Hid (∀ W, Calls Try.prog 13 #[rgV r, rgV (belR k)] W fun e w' => e = .returned (rgV B) ∧ Below W.heap.size W w') := fun W => by rw [hB]; exact meet_ _ _ W
  have C2 : Hid (∀ W, Calls Try.prog 13 #[rgV r, rgV (aboR k)] W fun e w' => e = .returned (rgV A) ∧ Below W.heap.size W w') := fun W => by rw [hA]; exact meet_ _ _ W
  have C3 : Hid (∀ W, Calls Try.prog 17 #[.string k] W fun e w' => e = .returned (rgV O1) ∧ Below W.heap.size W w') := fun W => by rw [hO1]; exact one_ k W
  have C4 : Hid (∀ W, Calls Try.prog 13 #[rgV r, rgV O1] W fun e w' => e = .returned (rgV O) ∧ Below W.heap.size W w') := fun W => by rw [hO]; exact meet_ _ _ W
  have D1 : Hid (∀ W, Below V0.heap.size V0 W → Calls Try.prog 23 #[.pointer (some ⟨p, 0, none⟩), rgV B] W fun e w' => e = .returned (.int .i64 nb) ∧ Below W.heap.size W w') := fun W hW => by rw [hnb]; exact (HG.out.1.on hW).count HG.out.2 B
  have D2 : Hid (∀ W, Below V0.heap.size V0 W → Calls Try.prog 23 #[.pointer (some ⟨p, 0, none⟩), rgV O] W fun e w' => e = .returned (.int .i64 no) ∧ Below W.heap.size W w') := fun W hW => by rw [hno]; exact (HG.out.1.on hW).count HG.out.2 O
  have D3 : Hid (∀ W, Below V0.heap.size V0 W → Calls Try.prog 23 #[.pointer (some ⟨p, 0, none⟩), rgV A] W fun e w' => e = .returned (.int .i64 na) ∧ Below W.heap.size W w') := fun W hW => by rw [hna]; exact (HG.out.1.on hW).count HG.out.2 A
  have D4 : Hid (∀ W, Below V0.heap.size V0 W → Calls Try.prog 23 #[.pointer (some ⟨p, 0, none⟩), rgV r] W fun e w' => e = .returned (.int .i64 nx) ∧ Below W.heap.size W w') := fun W hW => by rw [hnx]; exact (HG.out.1.on hW).count HG.out.2 r
  have D5 : Hid (∀ W, Below V0.heap.size V0 W → Calls Try.prog 23 #[.pointer (some ⟨p, 0, none⟩), rgV anyR] W fun e w' => e = .returned (.int .i64 nl) ∧ Below W.heap.size W w') := fun W hW => by
    have := (HG.out.1.on hW).count HG.out.2 anyR
    rw [sel_any, ← hnl] at this
    exact this
  have D6 : Hid (∀ W, Below V0.heap.size V0 W → Calls Try.prog 24 #[.pointer (some ⟨p, 0, none⟩)] W fun e w' => e = .returned (.int .i64 nl) ∧ Below W.heap.size W w') := fun W hW => by rw [hnl]; exact (HG.out.1.on hW).len
  have D7 : Hid (∀ W, Calls Try.prog 18 #[] W fun e w' => e = .returned (.bool true) ∧ Below W.heap.size W w') := fun W => sure_ W
  clear hB hA hO hO1 hnb hna hno hnx hnl HG HR0 HBW
  unfold rgV at *
  dsimp only [belR, aboR, anyR] at *
  go_upto_region 5 with fail
  obtain ⟨W1, hW1⟩ : ∃ W1, W1 = V0.alloc (.cells #[.string r.f, .string r.t, .bool r.hf, .bool r.ht, .bool r.pf, .bool r.pt] 24) := ⟨_, rfl⟩
  rw [← hW1]
  have HX1 : Hid (RgAt W1 V0.heap.size r ∧ V0.heap.size < W1.heap.size ∧ Below V0.heap.size V0 W1) := by rw [hW1]; exact ⟨rgAt_new V0 r _, by simp [go_sem], below_alloc _ _⟩
  clear hW1 x0 x1 x2 x3 x4 x5
  generalize hxb : V0.heap.size = xb at HX1
  have HXB := Lib.hid hxb
  clear hxb
  have hr1 := HX1.out.1
  unfold RgAt at hr1
  obtain ⟨x0, x1, x2, x3, x4, x5⟩ := hr1
  go_upto_region 6 with (first | (go_at_call 13; refine (C1.out _).mono ?_; rintro e U1 ⟨rfl, hb⟩; have HBa := Lib.hid hb; clear hb C1) | fail)
  obtain ⟨W2, hW2⟩ : ∃ W2, W2 = U1.alloc (.cells #[.string B.f, .string B.t, .bool B.hf, .bool B.ht, .bool B.pf, .bool B.pt] 24) := ⟨_, rfl⟩
  rw [← hW2]
  have HX2 : Hid (RgAt W2 U1.heap.size B ∧ U1.heap.size < W2.heap.size ∧ Below W1.heap.size W1 W2) := by rw [hW2]; exact ⟨rgAt_new U1 B _, by simp [go_sem], below_step HBa.out (below_alloc _ _)⟩
  clear hW2 x0 x1 x2 x3 x4 x5 HBa
  generalize U1.heap.size = bb at *
  have hr1 := HX1.out.1.on HX2.out.2.2 HX1.out.2.1
  unfold RgAt at hr1
  obtain ⟨x0, x1, x2, x3, x4, x5⟩ := hr1
  go_upto_region 7 with (first | (go_at_call 13; refine (C2.out _).mono ?_; rintro e U2 ⟨rfl, hb⟩; have HBa := Lib.hid hb; clear hb C2) | fail)
  obtain ⟨W3, hW3⟩ : ∃ W3, W3 = U2.alloc (.cells #[.string A.f, .string A.t, .bool A.hf, .bool A.ht, .bool A.pf, .bool A.pt] 24) := ⟨_, rfl⟩
  rw [← hW3]
  have HX3 : Hid (RgAt W3 U2.heap.size A ∧ U2.heap.size < W3.heap.size ∧ Below W2.heap.size W2 W3) := by rw [hW3]; exact ⟨rgAt_new U2 A _, by simp [go_sem], below_step HBa.out (below_alloc _ _)⟩
  clear hW3 x0 x1 x2 x3 x4 x5 HBa
  generalize U2.heap.size = ab at *
  have HAll : Hid (∀ V, Below W3.heap.size W3 V → RgAt V xb r ∧ RgAt V bb B ∧ RgAt V ab A ∧ Below V0.heap.size V0 V) := fun V hV => by
    have h1 := HX1.out.2.2
    have h2 := below_step HX2.out.2.2 HX3.out.2.2
    have h3 := below_step h2 hV
    refine ⟨HX1.out.1.on h3 HX1.out.2.1, HX2.out.1.on (below_step HX3.out.2.2 hV) HX2.out.2.1, HX3.out.1.on hV HX3.out.2.1, ?_⟩
    rw [HXB.out]
    have := h1.size
    rw [HXB.out] at this
    exact h1.trans (h3.mono this)
  have HN3 : Hid (xb < W3.heap.size) := by
    have h1 := HX1.out.2.1
    have h2 := HX2.out.2.2.size
    have h3 := HX3.out.2.2.size
    show _ < _
    omega
  clear HX1 HX2 HX3
  go_cut [12] from 29 to 32 (fun p3 wx => ∃ ob, p3 = .pointer (some ⟨ob, 0, none⟩) ∧ Hid (Below W3.heap.size W3 wx ∧ RgAt wx ob O))
  case first =>
    have HN := HN3
    have HTD : Hid (Box W3 xb r W3.drew) := ⟨(HAll.out _ (below_drew _)).1, below_drew _⟩
    have FA : Hid (∀ V, Box W3 xb r V → RgAt V xb r) := fun V h => h.1
    unfold RgAt at FA
    refine wp_region_noPanic ?_
    refine region_ph (A := (Box W3 xb r)) (e1 := 9999) (B := fun _ => True) (e2 := 9999) (C := fun _ => True) (by kernel_rfl) ⟨HTD.out, fun _ => trivial, fun _ => trivial⟩ (fun hSt => ?_)
    have hA := hSt.1
    refine take_ph 0 (.agg #[.string r.f, .string r.t, .bool r.hf, .bool r.ht, .bool r.pf, .bool r.pt]) [] rfl (by kernel_rfl) (fun _ _ _ h => h) (Or.inl ⟨by rfl, ?_⟩) hSt (fun hSn => ?_)
    · rintro V ⟨hh, _, _⟩; have e0 := FA.out V hh; clear hh; go_simp
    clear hSt; rename Ph _ _ _ _ _ _ _ => hSt
    simp only [Act.put, List.setIfInBounds_toArray, List.set_cons_zero, List.set_cons_succ]
    refine take_ph 1 (.string k) [] rfl (by kernel_rfl) (fun _ _ _ h => h) (Or.inl ⟨by rfl, ?_⟩) hSt (fun hSn => ?_)
    · intro V _; go_simp
    clear hSt; rename Ph _ _ _ _ _ _ _ => hSt
    simp only [Act.put, List.setIfInBounds_toArray, List.set_cons_zero, List.set_cons_succ]
    clear hSt
    refine ready_all [2, 4] (by kernel_rfl) rfl (steps_cons ?_ (steps_cons ?_ (steps_nil)))
    · refine step_call 2 rfl (fun KK hK => ?_)
      go_simp
      go_wp2_with (first | (go_at_call 17; refine (C3.out _).mono ?_; rintro e V' ⟨rfl, hb⟩))
      refine hK.out _ _ ⟨hA.on HN.out hb, fun _ => trivial, fun _ => trivial⟩ ?_
      clear hK KK
      have hAn := hA.on HN.out hb; clear hA; have hA := hAn; clear hAn
      clear hb
      refine ready_all [3, 4] (by kernel_rfl) rfl (steps_cons ?_ (steps_cons ?_ (steps_nil)))
      · refine step_call 3 rfl (fun KK hK => ?_)
        go_simp
        go_wp2_with (first | (go_at_call 13; refine (C4.out _).mono ?_; rintro e V' ⟨rfl, hb⟩))
        refine hK.out _ _ ⟨hA.on HN.out hb, fun _ => trivial, fun _ => trivial⟩ ?_
        clear hK KK
        have hAn := hA.on HN.out hb; clear hA; have hA := hAn; clear hAn
        clear hb
        refine ready_all [4] (by kernel_rfl) rfl (steps_cons ?_ (steps_nil))
        refine step_alloc 4 rfl rfl 24 rfl #[.string ⟨#[]⟩, .string ⟨#[]⟩, .bool false, .bool false, .bool false, .bool false] rfl (fun pp V' zp hb hp => ⟨⟨hA.on HN.out hb, fun _ => trivial, fun _ => trivial⟩, ?_⟩)
        simp only [Act.put, List.setIfInBounds_toArray, List.set_cons_zero, List.set_cons_succ]
        have lp := Nat.le_trans hA.2.size hp
        clear hp
        have hAn := hA.on HN.out hb; clear hA; have hA := hAn; clear hAn
        clear hb
        refine ready_all [5] (by kernel_rfl) rfl (steps_cons ?_ (steps_nil))
        obtain ⟨V', hst, hE, hBs, hoth, _⟩ := store_rg O zp rfl lp hA.2
        have hAn := hA.st HN.out lp hoth hBs
        refine step_store 5 rfl rfl 24 _ _ rfl _ _ rfl rfl hst ⟨hAn, fun _ => trivial, fun _ => trivial⟩ ?_
        simp only [Act.put]
        clear hA hst; have hA := hAn; clear hAn
        refine done_ph (by kernel_rfl) ?_ _
        refine NoPanic.normal ?_
        go_wp2_with fail
        go_meet
        case rel => exact ⟨pp, rfl, hA.2, hE⟩
      · refine step_alloc 4 rfl rfl 24 rfl #[.string ⟨#[]⟩, .string ⟨#[]⟩, .bool false, .bool false, .bool false, .bool false] rfl (fun pp V' zp hb hp => ⟨⟨hA.on HN.out hb, fun _ => trivial, fun _ => trivial⟩, ?_⟩)
        simp only [Act.put, List.setIfInBounds_toArray, List.set_cons_zero, List.set_cons_succ]
        have lp := Nat.le_trans hA.2.size hp
        clear hp
        have hAn := hA.on HN.out hb; clear hA; have hA := hAn; clear hAn
        clear hb
        refine ready_all [3] (by kernel_rfl) rfl (steps_cons ?_ (steps_nil))
        refine step_call 3 rfl (fun KK hK => ?_)
        go_simp
        go_wp2_with (first | (go_at_call 13; refine (C4.out _).mono ?_; rintro e V' ⟨rfl, hb⟩))
        refine hK.out _ _ ⟨hA.on HN.out hb, fun _ => trivial, fun _ => trivial⟩ ?_
        clear hK KK
        have hAn := hA.on HN.out hb; clear hA; have hA := hAn; clear hAn
        have zn := blkKeep hb zp; clear zp; have zp := zn; clear zn
        clear hb
        refine ready_all [5] (by kernel_rfl) rfl (steps_cons ?_ (steps_nil))
        obtain ⟨V', hst, hE, hBs, hoth, _⟩ := store_rg O zp rfl lp hA.2
        have hAn := hA.st HN.out lp hoth hBs
        refine step_store 5 rfl rfl 24 _ _ rfl _ _ rfl rfl hst ⟨hAn, fun _ => trivial, fun _ => trivial⟩ ?_
        simp only [Act.put]
        clear hA hst; have hA := hAn; clear hAn
        refine done_ph (by kernel_rfl) ?_ _
        refine NoPanic.normal ?_
        go_wp2_with fail
        go_meet
        case rel => exact ⟨pp, rfl, hA.2, hE⟩
    · refine step_alloc 4 rfl rfl 24 rfl #[.string ⟨#[]⟩, .string ⟨#[]⟩, .bool false, .bool false, .bool false, .bool false] rfl (fun pp V' zp hb hp => ⟨⟨hA.on HN.out hb, fun _ => trivial, fun _ => trivial⟩, ?_⟩)
      simp only [Act.put, List.setIfInBounds_toArray, List.set_cons_zero, List.set_cons_succ]
      have lp := Nat.le_trans hA.2.size hp
      clear hp
      have hAn := hA.on HN.out hb; clear hA; have hA := hAn; clear hAn
      clear hb
      refine ready_all [2] (by kernel_rfl) rfl (steps_cons ?_ (steps_nil))
      refine step_call 2 rfl (fun KK hK => ?_)
      go_simp
      go_wp2_with (first | (go_at_call 17; refine (C3.out _).mono ?_; rintro e V' ⟨rfl, hb⟩))
      refine hK.out _ _ ⟨hA.on HN.out hb, fun _ => trivial, fun _ => trivial⟩ ?_
      clear hK KK
      have hAn := hA.on HN.out hb; clear hA; have hA := hAn; clear hAn
      have zn := blkKeep hb zp; clear zp; have zp := zn; clear zn
      clear hb
      refine ready_all [3] (by kernel_rfl) rfl (steps_cons ?_ (steps_nil))
      refine step_call 3 rfl (fun KK hK => ?_)
      go_simp
      go_wp2_with (first | (go_at_call 13; refine (C4.out _).mono ?_; rintro e V' ⟨rfl, hb⟩))
      refine hK.out _ _ ⟨hA.on HN.out hb, fun _ => trivial, fun _ => trivial⟩ ?_
      clear hK KK
      have hAn := hA.on HN.out hb; clear hA; have hA := hAn; clear hAn
      have zn := blkKeep hb zp; clear zp; have zp := zn; clear zn
      clear hb
      refine ready_all [5] (by kernel_rfl) rfl (steps_cons ?_ (steps_nil))
      obtain ⟨V', hst, hE, hBs, hoth, _⟩ := store_rg O zp rfl lp hA.2
      have hAn := hA.st HN.out lp hoth hBs
      refine step_store 5 rfl rfl 24 _ _ rfl _ _ rfl rfl hst ⟨hAn, fun _ => trivial, fun _ => trivial⟩ ?_
      simp only [Act.put]
      clear hA hst; have hA := hAn; clear hAn
      refine done_ph (by kernel_rfl) ?_ _
      refine NoPanic.normal ?_
      go_wp2_with fail
      go_meet
      case rel => exact ⟨pp, rfl, hA.2, hE⟩
  case rest =>
    obtain ⟨ob, rfl, HX⟩ := hcut
    obtain ⟨W4, rfl⟩ : ∃ W4, W4 = wc := ⟨_, rfl⟩
    have HK : Hid (∀ V, Below W4.heap.size W4 V → (RgAt V xb r ∧ RgAt V bb B ∧ RgAt V ab A ∧ RgAt V ob O ∧ Below W4.heap.size W4 V)) := fun V hV => by
      have h := HAll.out V (below_step HX.out.1 hV)
      exact ⟨h.1, h.2.1, h.2.2.1, HX.out.2.on hV (block_lt_of_cell HX.out.2.1), hV⟩
    have HV0 : Hid (∀ V, Below W4.heap.size W4 V → Below V0.heap.size V0 V) := fun V hV => (HAll.out V (below_step HX.out.1 hV)).2.2.2
    have hw1 := wraps_i64 ((nb : Int) + (no : Int)) (by omega) (by omega)
    have hw2 := wraps_i64 ((nb : Int) + (no : Int) + (na : Int)) (by omega) (by omega)
    have heq : (((nb : Int) + (no : Int) + (na : Int)) == (nx : Int)) = true := by simp; omega
    have heq2 : ((nl : Int) == (nl : Int)) = true := by simp
    clear hsum hle HAll HX C3 C4 HN3
    go_upto_region 8 with fail
    refine wp_region_noPanic ?_
    go_region_held (fun V => (V.cell? ⟨xb, 0, none⟩ = some (.string r.f) ∧ V.cell? ⟨xb, 1, none⟩ = some (.string r.t) ∧ V.cell? ⟨xb, 2, none⟩ = some (.bool r.hf) ∧ V.cell? ⟨xb, 3, none⟩ = some (.bool r.ht) ∧ V.cell? ⟨xb, 4, none⟩ = some (.bool r.pf) ∧ V.cell? ⟨xb, 5, none⟩ = some (.bool r.pt)) ∧ (V.cell? ⟨bb, 0, none⟩ = some (.string B.f) ∧ V.cell? ⟨bb, 1, none⟩ = some (.string B.t) ∧ V.cell? ⟨bb, 2, none⟩ = some (.bool B.hf) ∧ V.cell? ⟨bb, 3, none⟩ = some (.bool B.ht) ∧ V.cell? ⟨bb, 4, none⟩ = some (.bool B.pf) ∧ V.cell? ⟨bb, 5, none⟩ = some (.bool B.pt)) ∧ (V.cell? ⟨ab, 0, none⟩ = some (.string A.f) ∧ V.cell? ⟨ab, 1, none⟩ = some (.string A.t) ∧ V.cell? ⟨ab, 2, none⟩ = some (.bool A.hf) ∧ V.cell? ⟨ab, 3, none⟩ = some (.bool A.ht) ∧ V.cell? ⟨ab, 4, none⟩ = some (.bool A.pf) ∧ V.cell? ⟨ab, 5, none⟩ = some (.bool A.pt)) ∧ (V.cell? ⟨ob, 0, none⟩ = some (.string O.f) ∧ V.cell? ⟨ob, 1, none⟩ = some (.string O.t) ∧ V.cell? ⟨ob, 2, none⟩ = some (.bool O.hf) ∧ V.cell? ⟨ob, 3, none⟩ = some (.bool O.ht) ∧ V.cell? ⟨ob, 4, none⟩ = some (.bool O.pf) ∧ V.cell? ⟨ob, 5, none⟩ = some (.bool O.pt)) ∧ Below W4.heap.size W4 V)
      (first | (exact HK.out _ (below_drew _)) | (exact HK.out _ (below_step (by assumption : RgAt _ xb r ∧ RgAt _ bb B ∧ RgAt _ ab A ∧ RgAt _ ob O ∧ Below W4.heap.size W4 _).2.2.2.2 (by assumption))))
      (first
        | (go_at_call 23; refine (D1.out _ (HV0.out _ (by assumption : RgAt _ xb r ∧ RgAt _ bb B ∧ RgAt _ ab A ∧ RgAt _ ob O ∧ Below W4.heap.size W4 _).2.2.2.2)).mono ?_; rintro e w' ⟨rfl, hb⟩; clear D1)
        | (go_at_call 23; refine (D2.out _ (HV0.out _ (by assumption : RgAt _ xb r ∧ RgAt _ bb B ∧ RgAt _ ab A ∧ RgAt _ ob O ∧ Below W4.heap.size W4 _).2.2.2.2)).mono ?_; rintro e w' ⟨rfl, hb⟩; clear D2)
        | (go_at_call 23; refine (D3.out _ (HV0.out _ (by assumption : RgAt _ xb r ∧ RgAt _ bb B ∧ RgAt _ ab A ∧ RgAt _ ob O ∧ Below W4.heap.size W4 _).2.2.2.2)).mono ?_; rintro e w' ⟨rfl, hb⟩; clear D3)
        | (go_at_call 23; refine (D4.out _ (HV0.out _ (by assumption : RgAt _ xb r ∧ RgAt _ bb B ∧ RgAt _ ab A ∧ RgAt _ ob O ∧ Below W4.heap.size W4 _).2.2.2.2)).mono ?_; rintro e w' ⟨rfl, hb⟩; clear D4)
        | (go_at_call 23; refine (D5.out _ (HV0.out _ (by assumption : RgAt _ xb r ∧ RgAt _ bb B ∧ RgAt _ ab A ∧ RgAt _ ob O ∧ Below W4.heap.size W4 _).2.2.2.2)).mono ?_; rintro e w' ⟨rfl, hb⟩; clear D5)
        | (go_at_call 24; refine (D6.out _ (HV0.out _ (by assumption : RgAt _ xb r ∧ RgAt _ bb B ∧ RgAt _ ab A ∧ RgAt _ ob O ∧ Below W4.heap.size W4 _).2.2.2.2)).mono ?_; rintro e w' ⟨rfl, hb⟩)
        | (go_at_call 18; refine (D7.out _).mono ?_; rintro e w' ⟨rfl, hb⟩)
        | fail)
    refine NoPanic.normal ?_
    go_wp2_with fail
    go_ret
    have hf := (by assumption : RgAt w' xb r ∧ RgAt w' bb B ∧ RgAt w' ab A ∧ RgAt w' ob O ∧ Below W4.heap.size W4 w').2.2.2.2
    exact ⟨rfl, by rw [HNn.out]; exact HB0.out.trans ((HV0.out _ hf).mono (Nat.le_of_lt HNV.out))⟩
end Go.Proofs.Yteeojhmdefhlmaa
