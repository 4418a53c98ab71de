/- The walk of the document's Read; what find tells of the list. -/
import Derived.Test.YtjnhcanohefjiaaGreatDoorRFind
namespace Go.Proofs.YtjnhcanohefjiaaGreatDoor
open Go.RowKit Go.Sort Go.Maps

theorem take_drop_at {l : List RS} {i : Nat} (h : i < l.length) : l = l.take i ++ l[i] :: l.drop (i + 1) := by
  rw [← List.drop_eq_getElem_cons h, List.take_append_drop]
theorem find_yes {l : List RS} {k : Pl} {i : Nat} (h : FindIs l k i true) : ∃ hi : i < l.length, l[i].key = k ∧ findR l k = some l[i] := by
  obtain ⟨hi, e⟩ := h.is.1 rfl
  refine ⟨hi, e, ?_⟩
  have := findR_split (l.drop i) k h.lt
  rw [List.take_append_drop, List.drop_eq_getElem_cons hi, findR_cons, if_pos e] at this
  exact this
theorem find_gt {l : List RS} {k : Pl} {i : Nat} (h : FindIs l k i false) (hi : i < l.length) : ltP k l[i].key := by
  rcases ltP_total k l[i].key with e | e | e
  · exact e
  · exact absurd (h.is.2 ⟨hi, e.symm⟩) (by simp)
  · exact absurd e (h.ge hi)
theorem find_no {l : List RS} {k : Pl} {i : Nat} (h : FindIs l k i false) (hs : SrtR l) : findR l k = none := by
  have := findR_split (l.drop i) k h.lt
  rw [List.take_append_drop] at this
  rw [this]
  refine findR_none fun x hx => ?_
  have hi : i < l.length := by
    rcases Nat.lt_or_ge i l.length with hh | hh
    · exact hh
    · rw [List.drop_eq_nil_of_le hh] at hx; cases hx
  have hg := find_gt h hi
  rw [List.drop_eq_getElem_cons hi] at hx
  rcases List.mem_cons.1 hx with rfl | hx
  · exact Ne.symm (ltP_ne hg)
  · have hp := hs
    rw [take_drop_at hi] at hp
    have := (List.pairwise_cons.1 (List.pairwise_append.1 hp).2.1).1 x hx
    exact Ne.symm (ltP_ne (ltP_trans hg this))
theorem put_yes {l : List RS} {k : Pl} {i : Nat} (h : FindIs l k i true) (hi : i < l.length) (c : Ct) : putR l k c = l.take i ++ [⟨k, l[i].safe, c, true⟩] ++ l.drop (i + 1) := by
  obtain ⟨_, e⟩ := h.is.1 rfl
  have := putR_split (l.drop i) k c h.lt
  rw [List.take_append_drop] at this
  rw [this, List.drop_eq_getElem_cons hi]
  unfold putR
  rw [if_neg (by rw [e]; exact ltP_irrefl k), if_pos e.symm]
  simp
theorem put_no {l : List RS} {k : Pl} {i : Nat} (h : FindIs l k i false) (c : Ct) : putR l k c = l.take i ++ [⟨k, zeroC, c, true⟩] ++ l.drop i := by
  have := putR_split (l.drop i) k c h.lt
  rw [List.take_append_drop] at this
  rw [this]
  rcases Nat.lt_or_ge i l.length with hi | hi
  · rw [List.drop_eq_getElem_cons hi]
    unfold putR
    rw [if_pos (find_gt h hi)]
    simp
  · rw [List.drop_eq_nil_of_le hi]
    simp [putR]
/-- The six cells of a device of the document's. -/
theorem rd_cells {w : World} {b : Nat} {r s lf : Int} {v : Value} {cr ar : Bool} {t : TypeId} {z : Nat × Nat} (h : w.heap[b]? = some (.cells #[.int .i64 r, .int .i64 s, v, .bool cr, .bool ar, .int .i64 lf] t z)) :
    w.cell? ⟨b, 0, none⟩ = some (.int .i64 r) ∧ w.cell? ⟨b, 1, none⟩ = some (.int .i64 s) ∧ w.cell? ⟨b, 2, none⟩ = some v ∧ w.cell? ⟨b, 3, none⟩ = some (.bool cr) ∧ w.cell? ⟨b, 4, none⟩ = some (.bool ar) ∧ w.cell? ⟨b, 5, none⟩ = some (.int .i64 lf) :=
  ⟨cell_of h rfl, cell_of h rfl, cell_of h rfl, cell_of h rfl, cell_of h rfl, cell_of h rfl⟩
def hasR (r s : Int) (k : Pl) : Bool := decide (0 ≤ k.1 ∧ k.1 < r ∧ 0 ≤ k.2 ∧ k.2 < s)
/-- What the document's Read answers. -/
def ReadTo (w : World) (l : List RS) (k : Pl) (hb cr : Bool) (e : Ending) (w' : World) : Prop :=
  e = .returned (.tuple #[.string (if hb = false then bs [] else if cr = true then bs [] else bs (readR l k)), .int .i64 (if hb = false then 1 else if cr = true then 60 else 0)]) ∧ Below w.heap.size w w'
set_option maxRecDepth 100000 in
set_option maxHeartbeats 4000000 in
theorem rread_ (r s lf : Int) (cr ar : Bool) (a : Option Addr) (L c : Nat) (l : List RS) (k : Pl) (w : World) (hL : L = l.length) (h : SecsIn w a l) (hl : L ≤ 1000000) (hs : SrtR l) :
    Calls Tryz.prog 29 #[.agg #[.int .i64 r, .int .i64 s, .slice a L c, .bool cr, .bool ar, .int .i64 lf], .int .i64 k.1, .int .i64 k.2] w (ReadTo w l k (hasR r s k) cr) := by
  obtain ⟨g, j⟩ := k
  have HH : Hid (∀ V : World, Calls Tryz.prog 55 #[.agg #[.int .i64 r, .int .i64 s, .slice a L c, .bool cr, .bool ar, .int .i64 lf], .int .i64 g, .int .i64 j] V fun e w' => e = .returned (.bool (hasR r s (g, j))) ∧ Below V.heap.size V w') := fun V => rhas_ r s lf _ cr ar g j V
  have HF : Hid (∀ V : World, Below w.heap.size w V → Calls Tryz.prog 56 #[.agg #[.int .i64 r, .int .i64 s, .slice a L c, .bool cr, .bool ar, .int .i64 lf], .int .i64 g, .int .i64 j] V fun e w' => (∃ (i : Nat) (is : Bool), e = .returned (.tuple #[.int .i64 (i : Int), .bool is]) ∧ FindIs l (g, j) i is) ∧ Below V.heap.size V w') := fun V hV => rfind_ r s lf cr ar a L c l g j V hL (h.on hV) hl
  have HI := Lib.hid h
  have HL := Lib.hid hL
  have HS := Lib.hid hs
  have HZ : Hid (∀ V : World, Calls Tryz.prog 57 #[.string ⟨#[]⟩] V fun e w' => e = .returned (.string (bs zeroC)) ∧ Below V.heap.size V w') := fun V => rfilled_ [] V (fun x hx => by simp at hx) (by simp)
  obtain ⟨W, hW⟩ : ∃ W, W = w.alloc (.cells #[.int .i64 r, .int .i64 s, .slice a L c, .bool cr, .bool ar, .int .i64 lf] 33) := ⟨_, rfl⟩
  have HB : Hid (Below w.heap.size w W) := by rw [hW]; exact below_alloc w _
  have HG : Hid (W.heap[w.heap.size]? = some (.cells #[.int .i64 r, .int .i64 s, .slice a L c, .bool cr, .bool ar, .int .i64 lf] 33 (0, 0))) := by rw [hW]; exact alloc_at w _
  have HW := Lib.hid hW
  clear h hL hs hW
  unfold ReadTo
  dsimp only
  generalize hasR r s (g, j) = hb at *
  go_enter Tryz.func29, Tryz.ntmps29
  go_wp2_with fail
  rw [← HW.out]
  clear HW
  refine (HH.out W).mono ?_
  rintro e w1 ⟨rfl, hb1⟩
  have HB1 := Lib.hid (below_step HB.out hb1)
  have HG1 := Lib.hid ((hb1.block _ (blk_lt HG.out)).trans HG.out)
  clear hb1 HB HG HH
  obtain ⟨c0, c1, c2, c3, c4, c5⟩ := rd_cells HG1.out
  cases hb
  · go_wp2_with fail
    go_ret2
    exact ⟨rfl, HB1.out⟩
  · cases cr
    · go_wp2_with fail
      refine (HF.out w1 HB1.out).mono ?_
      rintro e w2 ⟨⟨i, is, rfl, hfi⟩, hb2⟩
      have HB2 := Lib.hid (below_step HB1.out hb2)
      have HG2 := Lib.hid ((hb2.block _ (blk_lt HG1.out)).trans HG1.out)
      have HFI := Lib.hid hfi
      clear hb2 hfi HB1 HG1 HF c0 c1 c2 c3 c4 c5
      obtain ⟨c0, c1, c2, c3, c4, c5⟩ := rd_cells HG2.out
      cases is
      · have hrd : readR l (g, j) = zeroC := by unfold readR; rw [find_no HFI.out HS.out]
        have HRD : Hid (bs (readR l (g, j)) = bs zeroC) := by rw [hrd]; rfl
        clear hrd
        generalize bs zeroC = z at *
        go_wp2_with fail
        refine (HZ.out w2).mono ?_
        rintro e w3 ⟨rfl, hb3⟩
        have HB3 := Lib.hid (below_step HB2.out hb3)
        clear hb3
        go_wp2_with fail
        go_ret2
        exact ⟨by simp [HRD.out], HB3.out⟩
      · obtain ⟨hi, hk, hfr⟩ := find_yes HFI.out
        obtain ⟨b, o, rfl, hsec⟩ := (HI.out.on HB2.out) i hi
        obtain ⟨_, _, q2, q3, q4⟩ := hsec.cells
        have hiL : (i : Int) < (L : Int) := by rw [HL.out]; omega
        have hrd : readR l (g, j) = if (l[i]).pend = true then (l[i]).now else (l[i]).safe := by unfold readR; rw [hfr]
        clear hsec hfr hk
        generalize (l[i]).pend = pe at *
        generalize (l[i]).now = no at *
        generalize (l[i]).safe = sa at *
        cases pe
        · have HRD : Hid (bs (readR l (g, j)) = bs sa) := by rw [hrd]; rfl
          clear hrd
          generalize bs sa = sa' at *
          go_wp2_with fail
          go_ret2
          exact ⟨by simp [HRD.out], HB2.out⟩
        · have HRD : Hid (bs (readR l (g, j)) = bs no) := by rw [hrd]; rfl
          clear hrd
          generalize bs no = no' at *
          go_wp2_with fail
          go_ret2
          exact ⟨by simp [HRD.out], HB2.out⟩
    · go_wp2_with fail
      go_ret2
      exact ⟨rfl, HB1.out⟩
end Go.Proofs.YtjnhcanohefjiaaGreatDoor
