/- Versions and chains in memory; bytes.Clone. -/
import Derived.Test.YtagamkahfiackaaGreatDoorVnMath
import Derived.Test.YtagamkahfiackaaGreatDoorCuMem
import Derived.Test.YtagamkahfiackaaGreatDoorVTake
import Derived.Deep.AppendLies
namespace Go.Proofs.YtagamkahfiackaaGreatDoor
open Go.RowKit Go.Sort

/-- A text's bytes as numbers. -/
def bsN (s : ByteArray) : List Nat := ns s.data.toList
theorem bs_bsN (s : ByteArray) : bs (bsN s) = s := by unfold bsN; rw [bs_ns]
theorem bsN_len (s : ByteArray) : (bsN s).length = s.size := by unfold bsN; rw [ns_length, size_list]
/-- A row in memory. -/
structure RowAt (w : World) (r : Vl) (s : ByteArray) : Prop where
  own : OwnB w 0 (.slice r.a r.n r.c) (bsN s)
  le : s.size ≤ 140737488355328
theorem RowAt.keep {w w' : World} {r : Vl} {s : ByteArray} (h : RowAt w r s) (hk : ∀ g, r.a = some ⟨g, 0, none⟩ → w'.heap[g]? = w.heap[g]?) : RowAt w' r s :=
  ⟨row_keep h.own fun g hg => by
    obtain ⟨a, c, e, _, h2, _⟩ := row_shape h.own
    simp only [Value.slice.injEq] at e
    cases ha : r.a with
    | none => rw [ha] at hg; cases hg
    | some ad =>
      obtain ⟨g', e'⟩ := h2 ad (by rw [← e.1, ha])
      rw [ha, e'] at hg
      simp only [Value.ownBlock, Option.some.injEq] at hg
      subst hg
      exact hk g' (by rw [ha, e']), h.le⟩
theorem RowAt.on {w w' : World} {r : Vl} {s : ByteArray} (h : RowAt w r s) (hb : Below w.heap.size w w') : RowAt w' r s := ⟨row_on h.own hb, h.le⟩
theorem RowAt.blk {w : World} {r : Vl} {s : ByteArray} (h : RowAt w r s) {g : Nat} (hg : r.a = some ⟨g, 0, none⟩) : ∃ cur, w.heap[g]? = some (.cells cur 5 (0, 0)) := row_block h.own (by rw [hg]; rfl)
theorem RowAt.bytes {w : World} {r : Vl} {s : ByteArray} (h : RowAt w r s) : r.n = (bsN s).length ∧ BytesIn w r.a (bsN s) ∧ (r.a = none → r.c = 0) := by
  obtain ⟨a, c, e, h1, h2⟩ := h.own.bytes
  simp only [Value.slice.injEq] at e
  obtain ⟨rfl, e2, rfl⟩ := e
  exact ⟨e2, h1, h2⟩
theorem rowAt_nil (w : World) : RowAt w vz ⟨#[]⟩ := ⟨ownB_nil w 0, Nat.zero_le _⟩
/-- What Clone leaves. -/
def Made (w : World) (s : ByteArray) (e : Ending) (w' : World) : Prop := ∃ r : Vl, e = .returned (.slice r.a r.n r.c) ∧ RowAt w' r s ∧ (∀ g, r.a = some ⟨g, 0, none⟩ → w.heap.size ≤ g) ∧ Below w.heap.size w w'
theorem own_empty (w : World) : OwnB (w.alloc (.cells #[] 5)) w.heap.size (.slice (some ⟨w.heap.size, 0, none⟩) 0 0) [] := World.ownsRow_lit w #[] 0 (Nat.le_refl _) (by decide) rfl
theorem made_of {w w' : World} {s : ByteArray} {v : Value} (ho : OwnB w' w.heap.size v (bsN s)) (hs : s.size ≤ 140737488355328) (hb : Below w.heap.size w w') : Made w s (.returned v) w' := by
  obtain ⟨a, c, e, _, h2, _⟩ := row_shape ho
  subst e
  refine ⟨⟨a, _, c⟩, rfl, ⟨ho.lower (Nat.zero_le _), hs⟩, fun g hg => ?_, hb⟩
  have hg' : a = some ⟨g, 0, none⟩ := hg
  subst hg'
  exact (World.ownsRow.lt ho g rfl).1
set_option maxRecDepth 100000 in
set_option maxHeartbeats 1000000 in
theorem clone_ {w : World} {a : Option Addr} {n c : Nat} {s : ByteArray} (hn : n = (bsN s).length) (h : BytesIn w a (bsN s)) (hc : a = none → c = 0) (hlim : s.size ≤ 140737488355328) :
    Calls Tryz.prog 25 #[.slice a n c] w (Made w s) := by
  have HB := Lib.hid h
  have HC := Lib.hid hc
  have HL := Lib.hid hn
  have HS := Lib.hid hlim
  have hlim' : n ≤ 140737488355328 := by rw [hn, bsN_len]; exact hlim
  clear h hc hn hlim
  have q : ∀ (w : World) (a : Option Addr) (n c n' c' : Nat), (binOp .eql 33 (.slice a n c) (.slice none n' c')).run Tryz.prog w = .ok (.bool a.isNone) w := fun w a n c n' c' => Lib.run_eql_slice_nil w _ _ a n c n' c' Tryz.underlying33
  cases a with
  | none =>
    have hx := bytes_none HB.out
    have hc0 := HC.out rfl
    subst hc0
    have hn0 : n = 0 := by rw [HL.out, hx]; rfl
    subst hn0
    have HZ : Hid (Made w s (.returned (.slice none 0 0)) w) := made_of (by rw [hx]; exact ownB_nil _ _) HS.out (Below.refl _ _)
    clear hx HB HC HL
    go_enter Tryz.func25, Tryz.ntmps25
    go_wp2_with fail
    go_ret
    exact HZ.out
  | some ad =>
    go_enter Tryz.func25, Tryz.ntmps25
    go_wp2_with (first
      | (at_builtin; refine wpList_append_bytes _ rfl _ _ rfl w.heap.size _ [] (bsN s) rfl (own_empty w) (some ad) n c rfl HL.out.symm HC.out (HB.out.on ((Below.refl _ _).alloc (Nat.le_refl _) _)) (by rw [← HL.out]; simpa using hlim') (by simp) ?_
         intro v2 w2 hown hgrow
         have HO := Lib.hid hown
         have Hb := Lib.hid (below_grow (Nat.le_refl _) ((Below.refl _ _).alloc (Nat.le_refl _) _) (own_empty w) hgrow)
         clear hown hgrow)
      | fail)
    go_ret
    exact made_of HO.out HS.out Hb.out

/-! ### Chains -/
structure MV where
  v : PV
  r : Vl
def pvs (L : List MV) : List PV := L.map (·.v)
theorem pvs_len (L : List MV) : (pvs L).length = L.length := by simp [pvs]
def vCells (x : MV) : List Value := [.int .i64 x.v.cm, .slice x.r.a x.r.n x.r.c, .bool x.v.gn]
def cV (L : List MV) : List Value := L.flatMap vCells
theorem cV_nil : cV [] = [] := rfl
theorem cV_cons (x : MV) (L : List MV) : cV (x :: L) = .int .i64 x.v.cm :: .slice x.r.a x.r.n x.r.c :: .bool x.v.gn :: cV L := rfl
theorem cV_append (a b : List MV) : cV (a ++ b) = cV a ++ cV b := by simp [cV]
theorem cV_len : ∀ L : List MV, (cV L).length = L.length * 3
  | [] => rfl
  | x :: L => by rw [cV_cons, List.length_cons, List.length_cons, List.length_cons, cV_len L, List.length_cons]; omega
theorem cV_one (L : List MV) : ∀ u ∈ cV L, u.oneCell' = true := by
  intro u hu
  obtain ⟨x, _, hx⟩ := List.mem_flatMap.1 hu
  simp only [vCells, List.mem_cons, List.not_mem_nil, or_false] at hx
  rcases hx with rfl | rfl | rfl <;> rfl
theorem cV_take : ∀ (L : List MV) (i : Nat), (cV L).take (i * 3) = cV (L.take i)
  | [], i => by simp [cV]
  | x :: L, 0 => by simp [cV]
  | x :: L, i + 1 => by rw [cV_cons, show (i + 1) * 3 = i * 3 + 1 + 1 + 1 by omega, List.take_succ_cons, List.take_succ_cons, List.take_succ_cons, cV_take L i, List.take_succ_cons, cV_cons]
theorem cV_drop : ∀ (L : List MV) (i : Nat), (cV L).drop (i * 3) = cV (L.drop i)
  | [], i => by simp [cV]
  | x :: L, 0 => by simp [cV]
  | x :: L, i + 1 => by rw [cV_cons, show (i + 1) * 3 = i * 3 + 1 + 1 + 1 by omega, List.drop_succ_cons, List.drop_succ_cons, List.drop_succ_cons, cV_drop L i, List.drop_succ_cons]
theorem cV_get : ∀ (L : List MV) (i : Nat) (x : MV), L[i]? = some x → (cV L)[i * 3]? = some (.int .i64 x.v.cm) ∧ (cV L)[i * 3 + 1]? = some (.slice x.r.a x.r.n x.r.c) ∧ (cV L)[i * 3 + 2]? = some (.bool x.v.gn)
  | [], i, x, h => by simp at h
  | y :: L, 0, x, h => by simp at h; subst h; exact ⟨rfl, rfl, rfl⟩
  | y :: L, i + 1, x, h => by
    have := cV_get L i x (by simpa using h)
    rw [cV_cons, show (i + 1) * 3 = i * 3 + 1 + 1 + 1 by omega]
    simpa using this
def RowV (w : World) (v : Value) (L : List MV) : Prop := w.ownsRow 0 90 3 v L.length (cV L)
/-- Versions behind a slice. -/
def VerIn (w : World) (a : Option Addr) (L : List MV) : Prop := ∀ i x, L[i]? = some x → ∃ g, a = some ⟨g, 0, none⟩ ∧ g < w.heap.size ∧ w.cell? ⟨g, i * 3, none⟩ = some (.int .i64 x.v.cm) ∧ w.cell? ⟨g, i * 3 + 1, none⟩ = some (.slice x.r.a x.r.n x.r.c) ∧ w.cell? ⟨g, i * 3 + 2, none⟩ = some (.bool x.v.gn)
theorem VerIn.on {w w' : World} {a : Option Addr} {L : List MV} (h : VerIn w a L) (hb : Below w.heap.size w w') : VerIn w' a L := fun i x hi => by
  obtain ⟨g, e, h1, h2, h3, h4⟩ := h i x hi
  exact ⟨g, e, Nat.lt_of_lt_of_le h1 hb.size, (hb.cell (p := ⟨g, i * 3, none⟩) h1).trans h2, (hb.cell (p := ⟨g, i * 3 + 1, none⟩) h1).trans h3, (hb.cell (p := ⟨g, i * 3 + 2, none⟩) h1).trans h4⟩
theorem RowV.shape {w : World} {v : Vl} {L : List MV} (h : RowV w (.slice v.a v.n v.c) L) : v.n = L.length ∧ VerIn w v.a L ∧ v.c ≤ 9223372036854775807 := by
  obtain ⟨a, c, e, _, _, _, hcm⟩ := row_shape h
  simp only [Value.slice.injEq] at e
  obtain ⟨e1, e2, e3⟩ := e
  refine ⟨e2, fun i x hi => ?_, by rw [e3]; unfold maxLen at hcm; omega⟩
  have hl : i < L.length := (List.getElem?_eq_some_iff.1 hi).1
  obtain ⟨g, c', cur, e, hg, _, _, _, hx⟩ := row_open h (by omega)
  simp only [Value.slice.injEq] at e
  obtain ⟨c1, c2, c3⟩ := cV_get L i x hi
  have get : ∀ j u, (cV L)[j]? = some u → w.cell? ⟨g, j, none⟩ = some u := fun j u hj => by
    refine cell_of hg ?_
    rw [← hx, List.getElem?_take] at hj
    split at hj
    · simpa using hj
    · cases hj
  exact ⟨g, e.1, blk_lt hg, get _ _ c1, get _ _ c2, get _ _ c3⟩
theorem infoVer : (Tryz.prog.info? 90).map (fun i => (i.zero, i.size, i.bytes)) = some (some (.agg #[.int .i64 0, .slice none 0 0, .bool false]), 3, 40) := by kernel_rfl
end Go.Proofs.YtagamkahfiackaaGreatDoor
