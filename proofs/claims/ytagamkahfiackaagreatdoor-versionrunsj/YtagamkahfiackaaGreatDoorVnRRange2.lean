/- The document's Range, walked. -/
import Derived.Test.YtagamkahfiackaaGreatDoorVnRRange
import Derived.Test.YtagamkahfiackaaGreatDoorVKeys
namespace Go.Proofs.YtagamkahfiackaaGreatDoor
open Go.RowKit Go.Sort

attribute [local go_sem] Oper.semAt_some
def rowF (t : Int) (x : Ct) : Option P2 := (rowC x.2 t).map fun y => (x.1, y)
def RRangeTo (w : World) (P : List P2) (e : Ending) (w' : World) : Prop := ∃ a c, e = .returned (.slice a P.length c) ∧ Hid (RowP2 w' w.heap.size (.slice a P.length c) P ∧ Below w.heap.size w w')
set_option maxRecDepth 100000 in
set_option maxHeartbeats 4000000 in
theorem rrange_ {w : World} {B : Nat} {v : Value} {R : List RV} {m : List Ct} (hr : RowRV w B v R) (hl : R.length ≤ 1000) (hrel : RelR R m) (hok : OkM m) (r : Rg) (t : Int) :
    Calls Tryz.prog 11 #[v, rgV r, .int .i64 t] w (RRangeTo w (rowsM r t m)) := by
  have hlen : m.length ≤ 1000 := Nat.le_trans hok.len (by rw [← RelR.len hok hrel]; exact hl)
  obtain ⟨K, hK⟩ : ∃ K, K = selM r m := ⟨_, rfl⟩
  have hKs : Srt K := by rw [hK]; exact sel_srtM hok.srt r
  have hKl : K.length ≤ 1000 := by rw [hK]; exact Nat.le_trans (List.length_filter_le _ _) hlen
  have hP : rowsM r t m = K.filterMap (rowF t) := by rw [hK]; rfl
  obtain ⟨W0, hW0⟩ : ∃ W0, W0 = w.alloc (.cells #[.string r.f, .string r.t, .bool r.hf, .bool r.ht, .bool r.pf, .bool r.pt] 24) := ⟨_, rfl⟩
  have hbw : Below w.heap.size w W0 := by rw [hW0]; exact below_alloc w _
  have HBW := Lib.hid hbw
  have HR0 : Hid (∀ V, Below W0.heap.size W0 V → RgAt V w.heap.size r) := fun V hV => (by rw [hW0]; exact rgAt_new w r _ : RgAt W0 w.heap.size r).on hV (by rw [hW0]; simp [go_sem])
  have HN : Hid (∀ V key first, Below W0.heap.size W0 V → Calls Tryz.prog 29 #[v, rgV r, .string key, .bool first] V fun e w' => e = .returned (nxV ((K.map (·.1)).find? fun k => first || ltb key k)) ∧ Below V.heap.size V w') := fun V key first hV => by
    have := rnxt_ (row_on hr (below_step hbw hV) : RowRV V B v R) hl r key first
    rw [nxt_find hrel hok, ← hK] at this
    exact this
  have HG : Hid (∀ V x, Below W0.heap.size W0 V → x ∈ K → Calls Tryz.prog 7 #[v, .string x.1, .int .i64 t] V fun e w' => e = .returned (.tuple #[.string ((rowC x.2 t).getD ⟨#[]⟩), .bool (rowC x.2 t).isSome]) ∧ Below V.heap.size V w') := fun V x hV hx => by
    have hxm : x ∈ m := by rw [hK] at hx; exact (List.mem_filter.1 hx).1
    have e : chM x.1 m = x.2 := by unfold chM; rw [mem_get hok.srt hxm]; rfl
    have := rget16_ (row_on hr (below_step hbw hV) : RowRV V B v R) hl x.1 (hrel.asc hok x.1) t
    rw [← hrel x.1, e] at this
    exact this
  have HNx : Hid (∀ (j : Nat) (x : Ct), K[j]? = some x → (K.map (·.1)).find? (fun k => false || ltb x.1 k) = (K[j + 1]?).map (·.1)) := fun j x hx => find_next hKs hx
  have HSn : Hid (∀ (j : Nat) (x : Ct), K[j]? = some x → (K.take (j + 1)).filterMap (rowF t) = (K.take j).filterMap (rowF t) ++ (rowF t x).toList) := fun j x hx => by
    obtain ⟨h1, h2⟩ := List.getElem?_eq_some_iff.1 hx
    rw [show K.take (j + 1) = K.take j ++ [x] by rw [← h2, List.take_append_getElem], List.filterMap_append]
    rw [List.filterMap_cons]
    cases rowF t x <;> rfl
  have HHd : Hid ((K.map (·.1)).find? (fun k => true || ltb ⟨#[]⟩ k) = (K[0]?).map (·.1)) := by show _ = _; cases K <;> rfl
  have HX : Hid (∀ i, i < K.length → ∃ x, K[i]? = some x) := fun i hi => ⟨_, List.getElem?_eq_getElem hi⟩
  have HLe : Hid (∀ j, ((K.take j).filterMap (rowF t)).length ≤ 1000) := fun j => Nat.le_trans (List.length_filterMap_le _ _) (by rw [List.length_take]; omega)
  have HEnd : Hid ((K.take K.length).filterMap (rowF t) = rowsM r t m) := by show _ = _; rw [List.take_length, hP]
  have HB0 : Hid (RowP2 W0 W0.heap.size (.slice none 0 0) ((K.take 0).filterMap (rowF t)) ∧ Below W0.heap.size W0 W0) := ⟨World.ownsRow_nil _ _ _ _, Below.refl _ _⟩
  have HNone : Hid (∀ j, K.length ≤ j → K[j]? = none) := fun j hj => List.getElem?_eq_none_iff.2 hj
  have HMem : Hid (∀ (j : Nat) x, K[j]? = some x → x ∈ K) := fun j x hx => List.mem_of_getElem? hx
  clear hr hlen hKs hP hbw hrel hok hK
  generalize hkl : K.length = L at *
  clear hkl
  unfold rgV at *
  go_enter Tryz.func11, Tryz.ntmps11
  go_upto_region 1 with fail
  rw [← hW0]
  clear hW0
  generalize hn : w.heap.size = n at *
  have HNn := Lib.hid hn
  clear hn
  obtain ⟨e0, e1, e2, e3, e4, e5⟩ := HR0.out W0 (Below.refl _ _)
  obtain ⟨k0, hk0⟩ : ∃ k0 : ByteArray, k0 = ((K[0]?).map (·.1)).getD ⟨#[]⟩ := ⟨_, rfl⟩
  have H0 : Hid (Calls Tryz.prog 29 #[v, .agg #[.string r.f, .string r.t, .bool r.hf, .bool r.ht, .bool r.pf, .bool r.pt], .string ⟨#[]⟩, .bool true] W0 fun e w' => e = .returned (.tuple #[.string k0, .bool (decide (0 < L))]) ∧ Below W0.heap.size W0 w') := by
    have h := HN.out W0 ⟨#[]⟩ true (Below.refl _ _)
    rw [HHd.out] at h
    refine h.mono fun e w' ⟨h1, h2⟩ => ⟨?_, h2⟩
    rw [h1, hk0]
    unfold nxV
    congr 3
    rcases Nat.lt_or_ge 0 L with q | q
    · obtain ⟨x, hx⟩ := HX.out 0 q
      rw [hx, decide_eq_true q]; rfl
    · rw [HNone.out 0 q, decide_eq_false (by omega)]; rfl
  have HK0 : Hid (∀ x, K[0]? = some x → k0 = x.1) := fun x hx => by rw [hk0, hx]; rfl
  clear hk0
  go_wp2_with (first
    | (go_at_call 29; refine H0.out.mono ?_; rintro e w1 ⟨rfl, hb⟩; have HB1 : Hid (RowP2 w1 W0.heap.size (.slice none 0 0) ((K.take 0).filterMap (rowF t)) ∧ Below W0.heap.size W0 w1) := ⟨row_on HB0.out.1 hb, hb⟩; clear hb)
    | fail)
  clear HB0 HHd e0 e1 e2 e3 e4 e5
  go_loopg [7, 8, 9] L (fun kx v7 v8 v9 wr => ∃ (j : Nat) (key : ByteArray), j ≤ L ∧ L - j ≤ kx ∧ v8 = .string key ∧ v9 = .bool (decide (j < L)) ∧ Hid (∀ x, K[j]? = some x → key = x.1) ∧ Hid (RowP2 wr W0.heap.size v7 ((K.take j).filterMap (rowF t)) ∧ Below W0.heap.size W0 wr))
  case atStart => exact ⟨0, k0, Nat.zero_le _, by omega, rfl, rfl, HK0, HB1⟩
  case round =>
    clear HB1 HK0 H0
    obtain ⟨j, key, hj, hkx, rfl, rfl, hkey, HI⟩ := hrel
    by_cases hlt : j < L
    · rw [decide_eq_true hlt]
      obtain ⟨x, hx⟩ := HX.out j hlt
      obtain rfl := hkey.out x hx
      have HGx := Lib.hid (HG.out wr x HI.out.2 (HMem.out j x hx))
      have HNj : Hid (∃ k', (∀ z, K[j + 1]? = some z → k' = z.1) ∧ ∀ V, Below W0.heap.size W0 V → Calls Tryz.prog 29 #[v, .agg #[.string r.f, .string r.t, .bool r.hf, .bool r.ht, .bool r.pf, .bool r.pt], .string x.1, .bool false] V fun e w' => e = .returned (.tuple #[.string k', .bool (decide (j + 1 < L))]) ∧ Below V.heap.size V w') := by
        refine ⟨((K[j + 1]?).map (·.1)).getD ⟨#[]⟩, fun z hz => by rw [hz]; rfl, fun V hV => ?_⟩
        have h := HN.out V x.1 false hV
        rw [HNx.out j x hx] at h
        refine h.mono fun e w' ⟨h1, h2⟩ => ⟨?_, h2⟩
        rw [h1]
        unfold nxV
        congr 3
        rcases Nat.lt_or_ge (j + 1) L with q | q
        · obtain ⟨z, hz⟩ := HX.out (j + 1) q
          rw [hz, decide_eq_true q]; rfl
        · rw [HNone.out (j + 1) q, decide_eq_false (by omega)]; rfl
      obtain ⟨k', hk', hnx⟩ := HNj.out
      have HK' := Lib.hid hk'
      have HNX := Lib.hid hnx
      have HSj := HSn.out j x hx
      clear hk' hnx HNj HG HN HNx HMem hkey
      cases hrow : rowC x.2 t with
      | none =>
        rw [hrow] at HGx
        have HS2 : Hid ((K.take (j + 1)).filterMap (rowF t) = (K.take j).filterMap (rowF t)) := by show _ = _; rw [HSj]; unfold rowF; rw [hrow]; simp
        clear HSj hrow hx
        dsimp only [Option.getD, Option.isSome] at HGx
        generalize x.1 = xk at *
        go_wp2_with (first
          | (go_at_call 7; refine HGx.out.mono ?_; rintro e w1 ⟨rfl, hb⟩; have HB1 : Hid (RowP2 w1 W0.heap.size u7 ((K.take (j + 1)).filterMap (rowF t)) ∧ Below W0.heap.size W0 w1) := ⟨by rw [HS2.out]; exact row_on HI.out.1 hb, below_step HI.out.2 hb⟩; obtain ⟨e0, e1, e2, e3, e4, e5⟩ := HR0.out w1 HB1.out.2; clear hb HGx)
          | (go_at_call 29; refine (HNX.out _ HB1.out.2).mono ?_; rintro e w2 ⟨rfl, hb⟩; have HB2 : Hid (RowP2 w2 W0.heap.size u7 ((K.take (j + 1)).filterMap (rowF t)) ∧ Below W0.heap.size W0 w2) := ⟨row_on HB1.out.1 hb, below_step HB1.out.2 hb⟩; clear hb e0 e1 e2 e3 e4 e5)
          | fail)
        go_roundg (L - (j + 1))
        case measure => omega
        case rel => exact ⟨j + 1, k', by omega, Nat.le_refl _, rfl, rfl, HK', HB2⟩
      | some y =>
        rw [hrow] at HGx
        have HS2 : Hid ((K.take (j + 1)).filterMap (rowF t) = (K.take j).filterMap (rowF t) ++ [(x.1, y)]) := by show _ = _; rw [HSj]; unfold rowF; rw [hrow]; rfl
        clear HSj hrow hx
        dsimp only [Option.getD, Option.isSome] at HGx
        generalize x.1 = xk at *
        go_wp2_with (first
          | (go_at_call 7; refine HGx.out.mono ?_; rintro e w1 ⟨rfl, hb⟩
             have hw1 := below_step HI.out.2 hb
             have hbU := below_alloc w1 (.cells #[.string xk, .string y] 76)
             have hrU := row_on (row_on HI.out.1 hb) hbU
             obtain ⟨v3, W3, hr3, ho3, hg3⟩ := app_p2 (x := (xk, y)) (B := w1.heap.size) hrU (new_blk w1 _) (by have := HLe.out j; omega) (Nat.le_trans hw1.size hbU.size)
             have HB1 : Hid (RowP2 W3 W0.heap.size v3 ((K.take (j + 1)).filterMap (rowF t)) ∧ Below W0.heap.size W0 W3) := ⟨by rw [HS2.out]; exact ho3, (below_step hw1 hbU).trans (p2_below hrU (Nat.le_trans hw1.size hbU.size) hg3)⟩
             obtain ⟨e0, e1, e2, e3, e4, e5⟩ := HR0.out W3 HB1.out.2
             clear hb HGx hw1 hbU hrU ho3 hg3)
          | (refine wpList_exec rfl (exec_append rfl rfl rfl hr3) ?_; clear hr3)
          | (go_at_call 29; refine (HNX.out _ HB1.out.2).mono ?_; rintro e w2 ⟨rfl, hb⟩; have HB2 : Hid (RowP2 w2 W0.heap.size v3 ((K.take (j + 1)).filterMap (rowF t)) ∧ Below W0.heap.size W0 w2) := ⟨row_on HB1.out.1 hb, below_step HB1.out.2 hb⟩; clear hb e0 e1 e2 e3 e4 e5)
          | fail)
        go_roundg (L - (j + 1))
        case measure => omega
        case rel => exact ⟨j + 1, k', by omega, Nat.le_refl _, rfl, rfl, HK', HB2⟩
    · obtain rfl : j = L := by omega
      rw [decide_eq_false hlt]
      have hrow := HI.out.1
      rw [HEnd.out] at hrow
      obtain ⟨a5, c5, e5, _⟩ := row_shape hrow
      have HI2 : Hid (RowP2 wr W0.heap.size (.slice a5 (rowsM r t m).length c5) (rowsM r t m) ∧ Below W0.heap.size W0 wr) := ⟨by rw [← e5]; exact hrow, HI.out.2⟩
      subst e5
      clear hrow HI HX HR0 HN HG HNx HSn HLe HEnd HNone HMem
      go_wp2_with fail
      go_ret
      refine ⟨a5, c5, rfl, row_baseV HI2.out.1 (by rw [HNn.out]; have := HBW.out.size; rw [HNn.out] at this; exact this), by rw [HNn.out]; exact HBW.out.trans (HI2.out.2.mono (by have := HBW.out.size; rw [HNn.out] at this; exact this))⟩
end Go.Proofs.YtagamkahfiackaaGreatDoor
