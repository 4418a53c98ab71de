/- Versions and chains in memory; bytes.Clone; The walks of last, upTo, row and with; The walks of upTo and row; What lies next to a key: plain facts on nodes; tell. -/
import Derived.Test.YtalmanfjiblhcaaGreatJ9
import Derived.Test.YtalmanfjiblhcaaGreatJ16
import Derived.Test.YtalmanfjiblhcaaGreatJ11
import Derived.Deep.AppendLies
import Derived.Test.YtalmanfjiblhcaaGreatJ14
namespace Go.Proofs.YtalmanfjiblhcaaGreat
open Go.RowKit Go.Sort
def bsN (s : ByteArray) : List Nat := ns s.data.toList
theorem bsN_len (s : ByteArray) : (bsN s).length = s.size := by unfold bsN; rw [ns_length, size_list]
structure RowAt (w : World) (r : Vl) (s : ByteArray) : Prop where
 own : OwnB w 0 (.slice r.a r.n r.c) (bsN s)
 le : s.size ≤ 140737488355328
theorem RowAt.keep {w w' : World} {r : Vl} {s : ByteArray} (h : RowAt w r s) (hk : ∀ g, r.a = some ⟨g, 0, none⟩ → w'.heap[g]? = w.heap[g]?) : RowAt w' r s :=
 ⟨row_keep h.own fun g hg => by
  obtain ⟨a, c, e, _, h2, _⟩ := row_shape h.own
  simp only [Value.slice.injEq] at e
  cases ha : r.a with
  | none => rw [ha] at hg; cases hg
  | some ad =>
    obtain ⟨g', e'⟩ := h2 ad (by rw [← e.1, ha])
    rw [ha, e'] at hg
    simp only [Value.ownBlock, Option.some.injEq] at hg
    subst hg
    exact hk g' (by rw [ha, e']), h.le⟩
theorem RowAt.on {w w' : World} {r : Vl} {s : ByteArray} (h : RowAt w r s) (hb : Below w.heap.size w w') : RowAt w' r s := ⟨row_on h.own hb, h.le⟩
theorem RowAt.blk {w : World} {r : Vl} {s : ByteArray} (h : RowAt w r s) {g : Nat} (hg : r.a = some ⟨g, 0, none⟩) : ∃ cur, w.heap[g]? = some (.cells cur 5 (0, 0)) := row_block h.own (by rw [hg]; rfl)
theorem RowAt.bytes {w : World} {r : Vl} {s : ByteArray} (h : RowAt w r s) : r.n = (bsN s).length ∧ BytesIn w r.a (bsN s) ∧ (r.a = none → r.c = 0) := by
 obtain ⟨a, c, e, h1, h2⟩ := h.own.bytes
 simp only [Value.slice.injEq] at e
 obtain ⟨rfl, e2, rfl⟩ := e
 exact ⟨e2, h1, h2⟩
theorem rowAt_nil (w : World) : RowAt w vz ⟨#[]⟩ := ⟨ownB_nil w 0, Nat.zero_le _⟩
def Made (w : World) (s : ByteArray) (e : Ending) (w' : World) : Prop := ∃ r : Vl, e = .returned (.slice r.a r.n r.c) ∧ RowAt w' r s ∧ (∀ g, r.a = some ⟨g, 0, none⟩ → w.heap.size ≤ g) ∧ Below w.heap.size w w'
theorem own_empty (w : World) : OwnB (w.alloc (.cells #[] 5)) w.heap.size (.slice (some ⟨w.heap.size, 0, none⟩) 0 0) [] := World.ownsRow_lit w #[] 0 (Nat.le_refl _) (by decide) rfl
theorem made_of {w w' : World} {s : ByteArray} {v : Value} (ho : OwnB w' w.heap.size v (bsN s)) (hs : s.size ≤ 140737488355328) (hb : Below w.heap.size w w') : Made w s (.returned v) w' := by
 obtain ⟨a, c, e, _, h2, _⟩ := row_shape ho
 subst e
 refine ⟨⟨a, _, c⟩, rfl, ⟨ho.lower (Nat.zero_le _), hs⟩, fun g hg => ?_, hb⟩
 have hg' : a = some ⟨g, 0, none⟩ := hg
 subst hg'
 exact (World.ownsRow.lt ho g rfl).1
set_option maxRecDepth 100000 in
set_option maxHeartbeats 1000000 in
theorem clone_ {w : World} {a : Option Addr} {n c : Nat} {s : ByteArray} (hn : n = (bsN s).length) (h : BytesIn w a (bsN s)) (hc : a = none → c = 0) (hlim : s.size ≤ 140737488355328) :
 Calls Tryz.prog 51 #[.slice a n c] w (Made w s) := by
 have HB := Lib.hid h
 have HC := Lib.hid hc
 have HL := Lib.hid hn
 have HS := Lib.hid hlim
 have hlim' : n ≤ 140737488355328 := by rw [hn, bsN_len]; exact hlim
 clear h hc hn hlim
 have q : ∀ (w : World) (a : Option Addr) (n c n' c' : Nat), (binOp .eql 79 (.slice a n c) (.slice none n' c')).run Tryz.prog w = .ok (.bool a.isNone) w := fun w a n c n' c' => Lib.run_eql_slice_nil w _ _ a n c n' c' Tryz.underlying79
 cases a with
 | none =>
   have hx := bytes_none HB.out
   have hc0 := HC.out rfl
   subst hc0
   have hn0 : n = 0 := by rw [HL.out, hx]; rfl
   subst hn0
   have HZ : Hid (Made w s (.returned (.slice none 0 0)) w) := made_of (by rw [hx]; exact ownB_nil _ _) HS.out (Below.refl _ _)
   clear hx HB HC HL
   go_enter Tryz.func51, Tryz.ntmps51
   go_wp2_with fail
   go_ret
   exact HZ.out
 | some ad =>
   go_enter Tryz.func51, Tryz.ntmps51
   go_wp2_with (first
    | (at_builtin; refine wpList_append_bytes _ rfl _ _ rfl w.heap.size _ [] (bsN s) rfl (own_empty w) (some ad) n c rfl HL.out.symm HC.out (HB.out.on ((Below.refl _ _).alloc (Nat.le_refl _) _)) (by rw [← HL.out]; simpa using hlim') (by simp) ?_
       intro v2 w2 hown hgrow
       have HO := Lib.hid hown
       have Hb := Lib.hid (below_grow (Nat.le_refl _) ((Below.refl _ _).alloc (Nat.le_refl _) _) (own_empty w) hgrow)
       clear hown hgrow)
    | fail)
   go_ret
   exact made_of HO.out HS.out Hb.out
structure MV where
 v : PV
 r : Vl
def pvs (L : List MV) : List PV := L.map (·.v)
theorem pvs_len (L : List MV) : (pvs L).length = L.length := by simp [pvs]
def vCells (x : MV) : List Value := [.int .i64 x.v.cm, .slice x.r.a x.r.n x.r.c, .bool x.v.gn]
def cV (L : List MV) : List Value := L.flatMap vCells
theorem cV_cons (x : MV) (L : List MV) : cV (x :: L) = .int .i64 x.v.cm :: .slice x.r.a x.r.n x.r.c :: .bool x.v.gn :: cV L := rfl
theorem cV_append (a b : List MV) : cV (a ++ b) = cV a ++ cV b := by simp [cV]
theorem cV_one (L : List MV) : ∀ u ∈ cV L, u.oneCell' = true := by
 intro u hu
 obtain ⟨x, _, hx⟩ := List.mem_flatMap.1 hu
 simp only [vCells, List.mem_cons, List.not_mem_nil, or_false] at hx
 rcases hx with rfl | rfl | rfl <;> rfl
theorem cV_take : ∀ (L : List MV) (i : Nat), (cV L).take (i * 3) = cV (L.take i)
 | [], i => by simp [cV]
 | x :: L, 0 => by simp [cV]
 | x :: L, i + 1 => by rw [cV_cons, show (i + 1) * 3 = i * 3 + 1 + 1 + 1 by omega, List.take_succ_cons, List.take_succ_cons, List.take_succ_cons, cV_take L i, List.take_succ_cons, cV_cons]
theorem cV_get : ∀ (L : List MV) (i : Nat) (x : MV), L[i]? = some x → (cV L)[i * 3]? = some (.int .i64 x.v.cm) ∧ (cV L)[i * 3 + 1]? = some (.slice x.r.a x.r.n x.r.c) ∧ (cV L)[i * 3 + 2]? = some (.bool x.v.gn)
 | [], i, x, h => by simp at h
 | y :: L, 0, x, h => by simp at h; subst h; exact ⟨rfl, rfl, rfl⟩
 | y :: L, i + 1, x, h => by
   have := cV_get L i x (by simpa using h)
   rw [cV_cons, show (i + 1) * 3 = i * 3 + 1 + 1 + 1 by omega]
   simpa using this
def RowV (w : World) (v : Value) (L : List MV) : Prop := w.ownsRow 0 178 3 v L.length (cV L)
def VerIn (w : World) (a : Option Addr) (L : List MV) : Prop := ∀ i x, L[i]? = some x → ∃ g, a = some ⟨g, 0, none⟩ ∧ g < w.heap.size ∧ w.cell? ⟨g, i * 3, none⟩ = some (.int .i64 x.v.cm) ∧ w.cell? ⟨g, i * 3 + 1, none⟩ = some (.slice x.r.a x.r.n x.r.c) ∧ w.cell? ⟨g, i * 3 + 2, none⟩ = some (.bool x.v.gn)
theorem VerIn.on {w w' : World} {a : Option Addr} {L : List MV} (h : VerIn w a L) (hb : Below w.heap.size w w') : VerIn w' a L := fun i x hi => by
 obtain ⟨g, e, h1, h2, h3, h4⟩ := h i x hi
 exact ⟨g, e, Nat.lt_of_lt_of_le h1 hb.size, (hb.cell (p := ⟨g, i * 3, none⟩) h1).trans h2, (hb.cell (p := ⟨g, i * 3 + 1, none⟩) h1).trans h3, (hb.cell (p := ⟨g, i * 3 + 2, none⟩) h1).trans h4⟩
theorem RowV.shape {w : World} {v : Vl} {L : List MV} (h : RowV w (.slice v.a v.n v.c) L) : v.n = L.length ∧ VerIn w v.a L ∧ v.c ≤ 9223372036854775807 := by
 obtain ⟨a, c, e, _, _, _, hcm⟩ := row_shape h
 simp only [Value.slice.injEq] at e
 obtain ⟨e1, e2, e3⟩ := e
 refine ⟨e2, fun i x hi => ?_, by rw [e3]; unfold maxLen at hcm; omega⟩
 have hl : i < L.length := (List.getElem?_eq_some_iff.1 hi).1
 obtain ⟨g, c', cur, e, hg, _, _, _, hx⟩ := row_open h (by omega)
 simp only [Value.slice.injEq] at e
 obtain ⟨c1, c2, c3⟩ := cV_get L i x hi
 have get : ∀ j u, (cV L)[j]? = some u → w.cell? ⟨g, j, none⟩ = some u := fun j u hj => by
  refine cell_of hg ?_
  rw [← hx, List.getElem?_take] at hj
  split at hj
  · simpa using hj
  · cases hj
 exact ⟨g, e.1, blk_lt hg, get _ _ c1, get _ _ c2, get _ _ c3⟩
theorem infoVer : (Tryz.prog.info? 178).map (fun i => (i.zero, i.size, i.bytes)) = some (some (.agg #[.int .i64 0, .slice none 0 0, .bool false]), 3, 40) := by kernel_rfl
end Go.Proofs.YtalmanfjiblhcaaGreat
namespace Go.Proofs.YtalmanfjiblhcaaGreat
open Go.RowKit Go.Sort
theorem snoc_cases {α : Type} (L : List α) : L = [] ∨ ∃ D x, L = D ++ [x] := by
 rcases List.eq_nil_or_concat L with h | ⟨D, x, h⟩
 · exact .inl h
 · exact .inr ⟨D, x, by rw [h, List.concat_eq_append]⟩
theorem pvs_snoc (D : List MV) (x : MV) : pvs (D ++ [x]) = pvs D ++ [x.v] := by simp [pvs]
theorem pvs_get {L : List MV} {i : Nat} {x : MV} (h : L[i]? = some x) : (pvs L)[i]? = some x.v := by simp [pvs, h]
set_option maxRecDepth 100000 in
theorem last_ {w : World} {v : Vl} {L : List MV} (hn : v.n = L.length) (hv : VerIn w v.a L) (hl : L.length ≤ 1000000) :
 Calls Tryz.prog 78 #[.slice v.a v.n v.c] w fun e w' => e = .returned (.int .i64 (lastC (pvs L))) ∧ w' = w := by
 obtain ⟨a, n, c⟩ := v
 simp only at hn hv
 subst hn
 rcases snoc_cases L with rfl | ⟨D, x, rfl⟩
 · clear hv hl
   go_enter Tryz.func78, Tryz.ntmps78
   go_wp2_with fail
   go_ret
   exact ⟨rfl, rfl⟩
 · obtain ⟨g, rfl, hg, c1, _, _⟩ := hv D.length x (by simp)
   rw [pvs_snoc, last_snoc, List.length_append]
   rw [List.length_append] at hl
   simp only [List.length_cons, List.length_nil, Nat.zero_add] at hl ⊢
   clear hv
   generalize D.length = d at *
   have h0 : ¬ ((d : Int) + 1 = 0) := by omega
   have hw := wraps_i64 (d : Int) (by omega) (by omega)
   go_enter Tryz.func78, Tryz.ntmps78
   go_wp2_with fail
   go_ret
   exact ⟨rfl, rfl⟩
set_option maxRecDepth 100000 in
theorem up1_ {w : World} {bc bt i : Nat} {v : Vl} {L : List MV} {t : Int} {x : MV} (hn : v.n = L.length) (hv : VerIn w v.a L) (hx : L[i]? = some x) (c0 : w.cell? ⟨bc, 0, none⟩ = some (.slice v.a v.n v.c)) (c1 : w.cell? ⟨bt, 0, none⟩ = some (.int .i64 t)) :
 Calls Tryz.prog 132 #[.int .i64 i, .pointer (some ⟨bc, 0, none⟩), .pointer (some ⟨bt, 0, none⟩)] w fun e w' => e = .returned (.bool (decide (t < x.v.cm))) ∧ Below w.heap.size w w' := by
 obtain ⟨a, n, c⟩ := v
 simp only at hn hv c0
 have hi := (List.getElem?_eq_some_iff.1 hx).1
 rw [← hn] at hi
 obtain ⟨g, rfl, hg, c2, _, _⟩ := hv i x hx
 have HB := Lib.hid (below_drew w)
 generalize x.v.cm = m at *
 clear hn hv hx hg
 go_enter Tryz.func132, Tryz.ntmps132
 go_wp2_with fail
 go_region_held (fun V => V.cell? ⟨bc, 0, none⟩ = some (.slice (some ⟨g, 0, none⟩) n c) ∧ V.cell? ⟨bt, 0, none⟩ = some (.int .i64 t) ∧ V.cell? ⟨g, i * 3, none⟩ = some (.int .i64 m)) (go_keep) (fail)
 go_wp2_with fail
 go_ret
 exact ⟨rfl, HB.out⟩
set_option maxRecDepth 100000 in
set_option maxHeartbeats 1000000 in
theorem search_ {w : World} {n u bc bt : Nat} (hu : u ≤ n) (hn : n ≤ 1000000) (HF : ∀ V (i : Nat), Below w.heap.size w V → i < n → Calls Tryz.prog 132 #[.int .i64 i, .pointer (some ⟨bc, 0, none⟩), .pointer (some ⟨bt, 0, none⟩)] V fun e w' => e = .returned (.bool (decide (u ≤ i))) ∧ Below V.heap.size V w') :
 Calls Tryz.prog 131 #[.int .i64 n, .func (.func 132) #[] #[.pointer (some ⟨bc, 0, none⟩), .pointer (some ⟨bt, 0, none⟩)]] w fun e w' => e = .returned (.int .i64 u) ∧ Below w.heap.size w w' := by
 have B0 := Lib.hid (Below.refl w.heap.size w)
 have HH := Lib.hid HF
 clear HF
 go_enter Tryz.func131, Tryz.ntmps131
 go_wp2_with fail
 go_loopg [5, 6] n (fun kx s9 s10 wr => ∃ lo hi : Nat, s9 = .int .i64 lo ∧ s10 = .int .i64 hi ∧ lo ≤ u ∧ u ≤ hi ∧ hi ≤ n ∧ hi - lo ≤ kx ∧ Hid (Below w.heap.size w wr))
 case atStart => exact ⟨0, n, rfl, rfl, Nat.zero_le _, hu, Nat.le_refl _, by omega, B0⟩
 case round =>
  clear B0
  obtain ⟨lo, hi, rfl, rfl, hlu, huh, hin, hg, S1⟩ := hrel
  by_cases hlt : lo < hi
  · have HC := Lib.hid (HH.out wr ((lo + hi) / 2) S1.out (by omega))
    by_cases hm : u ≤ (lo + hi) / 2
    · have hd : decide (u ≤ (lo + hi) / 2) = true := decide_eq_true hm
      rw [hd] at HC
      clear hd
      go_wp2_with (first | (go_at_call 132; refine HC.out.mono ?_; rintro e w' ⟨rfl, hb⟩; have HB := Lib.hid hb; clear hb) | fail)
      go_roundg ((lo + hi) / 2 - lo)
      case measure => omega
      case rel => exact ⟨lo, (lo + hi) / 2, rfl, by rw [show ((lo : Int) + (hi : Int)) / 2 = (((lo + hi) / 2 : Nat) : Int) by omega], by omega, by omega, by omega, Nat.le_refl _, below_step S1.out HB.out⟩
    · have hd : decide (u ≤ (lo + hi) / 2) = false := decide_eq_false hm
      rw [hd] at HC
      clear hd
      go_wp2_with (first | (go_at_call 132; refine HC.out.mono ?_; rintro e w' ⟨rfl, hb⟩; have HB := Lib.hid hb; clear hb) | fail)
      go_roundg (hi - ((lo + hi) / 2 + 1))
      case measure => omega
      case rel => exact ⟨(lo + hi) / 2 + 1, hi, by rw [show ((lo : Int) + (hi : Int)) / 2 + 1 = (((lo + hi) / 2 + 1 : Nat) : Int) by omega], rfl, by omega, by omega, hin, Nat.le_refl _, below_step S1.out HB.out⟩
  · obtain rfl : hi = lo := by omega
    obtain rfl : u = hi := by omega
    go_wp2_with fail
    go_ret
    exact ⟨rfl, S1.out⟩
end Go.Proofs.YtalmanfjiblhcaaGreat
namespace Go.Proofs.YtalmanfjiblhcaaGreat
open Go.RowKit Go.Sort
theorem two_box (w : World) (A B : Obj) : Below w.heap.size w ((w.alloc A).alloc B) ∧ ((w.alloc A).alloc B).heap[w.heap.size]? = some A ∧ ((w.alloc A).alloc B).heap[w.heap.size + 1]? = some B := by
 have hs : (w.alloc A).heap.size = w.heap.size + 1 := by simp [go_sem]
 refine ⟨below_step (below_alloc w A) (below_alloc _ B), ?_, ?_⟩
 · rw [Below.heap_alloc _ _ _ (by rw [hs]; omega)]
   exact new_blk w A
 · rw [← hs]; exact new_blk _ _
set_option maxRecDepth 100000 in
theorem upTo_ {w : World} {v : Vl} {L : List MV} (hn : v.n = L.length) (hv : VerIn w v.a L) (hl : L.length ≤ 1000000) (ha : AscC (pvs L)) (t : Int) :
 Calls Tryz.prog 99 #[.slice v.a v.n v.c, .int .i64 t] w fun e w' => e = .returned (.int .i64 (upC (pvs L) t)) ∧ Below w.heap.size w w' := by
 obtain ⟨W, hW⟩ : ∃ W, W = (w.alloc (.cells #[.slice v.a v.n v.c] 154)).alloc (.cells #[.int .i64 t] 3) := ⟨_, rfl⟩
 obtain ⟨b0, b1, b2⟩ := two_box w (.cells #[.slice v.a v.n v.c] 154) (.cells #[.int .i64 t] 3)
 rw [← hW] at b0 b1 b2
 have hul : upC (pvs L) t ≤ v.n := by rw [hn, ← pvs_len]; exact up_le _ _
 have HS := Lib.hid (search_ (w := W) (bc := w.heap.size) (bt := w.heap.size + 1) hul (by omega) fun V i hV hi => by
  obtain ⟨x, hx⟩ := getElem?_of_lt (show i < L.length by omega)
  have e := up_at ha t (pvs_get hx)
  have := up1_ (w := V) (bc := w.heap.size) (bt := w.heap.size + 1) (t := t) hn (hv.on (below_step b0 hV)) hx (cell_of ((hV.block _ (blk_lt b1)).trans b1) rfl) (cell_of ((hV.block _ (blk_lt b2)).trans b2) rfl)
  rw [show decide (t < x.v.cm) = decide (upC (pvs L) t ≤ i) from by simp only [e]] at this
  exact this)
 have HB := Lib.hid b0
 generalize upC (pvs L) t = u at *
 obtain ⟨a, n, c⟩ := v
 simp only at hW HS
 rw [hW] at HS HB
 clear hn hv b0 b1 b2 hul hW
 go_enter Tryz.func99, Tryz.ntmps99
 go_wp2_with (first | (go_at_call 131; refine HS.out.mono ?_; rintro e w' ⟨rfl, hb⟩; have HB2 := Lib.hid hb; clear hb) | fail)
 go_ret
 exact ⟨rfl, below_step HB.out HB2.out⟩
def asL (L : List MV) (t : Int) : Option MV := if upC (pvs L) t = 0 then none else L[upC (pvs L) t - 1]?
theorem asL_as {L : List MV} (h : AscC (pvs L)) (t : Int) : asC (pvs L) t = (asL L t).map (·.v) := by
 rw [as_at h]
 unfold asL
 split
 · rfl
 · simp [pvs]
def rwV : Option MV → Vl
 | none => vz
 | some x => if x.v.gn then vz else x.r
def rwB : Option MV → Bool
 | none => false
 | some x => !x.v.gn
set_option maxRecDepth 100000 in
theorem row_ {w : World} {v : Vl} {L : List MV} (hn : v.n = L.length) (hv : VerIn w v.a L) (hl : L.length ≤ 1000000) (ha : AscC (pvs L)) (t : Int) :
 Calls Tryz.prog 62 #[.slice v.a v.n v.c, .int .i64 t] w fun e w' => e = .returned (.tuple #[.slice (rwV (asL L t)).a (rwV (asL L t)).n (rwV (asL L t)).c, .bool (rwB (asL L t))]) ∧ Below w.heap.size w w' := by
 have HU := Lib.hid (upTo_ hn hv hl ha t)
 have hul : upC (pvs L) t ≤ L.length := by rw [← pvs_len]; exact up_le _ _
 obtain ⟨o, ho⟩ : ∃ o, o = asL L t := ⟨_, rfl⟩
 rw [← ho]
 unfold asL at ho
 generalize upC (pvs L) t = u at *
 obtain ⟨a, n, c⟩ := v
 simp only at hn hv HU
 rw [← hn] at hul hl
 rcases Nat.eq_zero_or_pos u with rfl | hp
 · rw [if_pos rfl] at ho
   subst ho
   clear hn hv hul hl
   unfold rwV rwB
   go_enter Tryz.func62, Tryz.ntmps62
   go_wp2_with (first | (go_at_call 99; refine HU.out.mono ?_; rintro e w' ⟨rfl, hb⟩; have HB2 := Lib.hid hb; clear hb) | fail)
   go_ret2
   exact ⟨rfl, HB2.out⟩
 · obtain ⟨j, rfl⟩ : ∃ j, u = j + 1 := ⟨u - 1, by omega⟩
   rw [if_neg (by omega)] at ho
   obtain ⟨x, hx⟩ := getElem?_of_lt (show j < L.length by omega)
   rw [show j + 1 - 1 = j by omega, hx] at ho
   subst ho
   obtain ⟨⟨cm, tx, gn⟩, ⟨ra, rn, rc⟩⟩ := x
   obtain ⟨g, rfl, hg, c1, c2, c3⟩ := hv j _ hx
   simp only at c1 c2 c3
   have HC : Hid (∀ V, Below w.heap.size w V → V.cell? ⟨g, j * 3 + 1, none⟩ = some (.slice ra rn rc) ∧ V.cell? ⟨g, j * 3 + 2, none⟩ = some (.bool gn)) := fun V hV => ⟨(hV.cell (p := ⟨g, j * 3 + 1, none⟩) hg).trans c2, (hV.cell (p := ⟨g, j * 3 + 2, none⟩) hg).trans c3⟩
   have HU' : Hid (Calls Tryz.prog 99 #[.slice (some ⟨g, 0, none⟩) n c, .int .i64 t] w fun e w' => e = .returned (.int .i64 ((j : Int) + 1)) ∧ Below w.heap.size w w') := by
    have := HU.out
    rw [show (((j + 1 : Nat) : Int)) = (j : Int) + 1 by omega] at this
    exact this
   have hjn : (j : Int) < n := by omega
   have hw := wraps_i64 (j : Int) (by omega) (by omega)
   have h0 : ¬ ((j : Int) + 1 = 0) := by omega
   clear HU hn hv hx c1 c2 c3 hg hul
   cases gn with
   | true =>
     simp only [rwV, rwB, if_true, Bool.not_true]
     go_enter Tryz.func62, Tryz.ntmps62
     go_wp2_with (first | (go_at_call 99; refine HU'.out.mono ?_; rintro e w' ⟨rfl, hb⟩; have HB2 := Lib.hid hb; obtain ⟨d1, d2⟩ := HC.out _ hb; clear hb) | fail)
     go_ret2
     exact ⟨rfl, HB2.out⟩
   | false =>
     simp only [rwV, rwB, Bool.false_eq_true, if_false, Bool.not_false]
     go_enter Tryz.func62, Tryz.ntmps62
     go_wp2_with (first | (go_at_call 99; refine HU'.out.mono ?_; rintro e w' ⟨rfl, hb⟩; have HB2 := Lib.hid hb; obtain ⟨d1, d2⟩ := HC.out _ hb; clear hb) | fail)
     go_ret2
     exact ⟨rfl, HB2.out⟩
def withM (L : List MV) (x : MV) : List MV := if lastC (pvs L) = x.v.cm then L.dropLast ++ [x] else L ++ [x]
theorem withM_pvs (L : List MV) (x : MV) : pvs (withM L x) = withC (pvs L) x.v := by
 unfold withM withC
 split <;> simp [pvs]
theorem withM_mem {L : List MV} {x y : MV} (h : y ∈ withM L x) : y = x ∨ y ∈ L := by
 unfold withM at h
 split at h
 · rcases List.mem_append.1 h with h | h
   · exact .inr ((List.dropLast_sublist L).subset h)
   · exact .inl (List.mem_singleton.1 h)
 · rcases List.mem_append.1 h with h | h
   · exact .inr h
   · exact .inl (List.mem_singleton.1 h)
def WithTo (w : World) (v : Vl) (L : List MV) (e : Ending) (w' : World) : Prop :=
 ∃ g cap, e = .returned (.slice (some ⟨g, 0, none⟩) L.length cap) ∧ RowV w' (.slice (some ⟨g, 0, none⟩) L.length cap) L ∧ w.grownBy w' (Value.slice v.a v.n v.c).ownBlock ∧ ((Value.slice v.a v.n v.c).ownBlock = some g ∨ w.heap.size ≤ g)
set_option maxRecDepth 100000 in
set_option maxHeartbeats 1000000 in
theorem with_ {w : World} {v : Vl} {L : List MV} (x : MV) (h : RowV w (.slice v.a v.n v.c) L) (hl : L.length ≤ 1000000) (h1 : 1 ≤ x.v.cm) :
 Calls Tryz.prog 80 #[.slice v.a v.n v.c, .agg #[.int .i64 x.v.cm, .slice x.r.a x.r.n x.r.c, .bool x.v.gn]] w (WithTo w v (withM L x)) := by
 obtain ⟨hn, hv, hc63⟩ := h.shape
 obtain ⟨i0, hi0, hz0, hz1, hz2⟩ := info_parts infoVer
 obtain ⟨W, hW⟩ : ∃ W, W = w.alloc (.cells #[.int .i64 x.v.cm, .slice x.r.a x.r.n x.r.c, .bool x.v.gn] 178) := ⟨_, rfl⟩
 have hB0 : Below w.heap.size w W := by rw [hW]; exact below_alloc _ _
 have hbx : W.heap[w.heap.size]? = some (.cells (vCells x).toArray 178 (0, 0)) := by rw [hW]; exact new_blk _ _
 have HK : Hid (∀ V, Below W.heap.size W V → (Below W.heap.size W V ∧ V.cell? ⟨w.heap.size, 0, none⟩ = some (.int .i64 x.v.cm))) := fun V hV => ⟨hV, cell_of ((hV.block _ (blk_lt hbx)).trans hbx) rfl⟩
 have HL : Hid (∀ V, Below W.heap.size W V → Calls Tryz.prog 78 #[.slice v.a v.n v.c] V fun e w' => e = .returned (.int .i64 (lastC (pvs L))) ∧ w' = V) := fun V hV => last_ hn (hv.on (below_step hB0 hV)) hl
 have HR : Hid (∀ V, Below W.heap.size W V → V.cell? ⟨w.heap.size, 0, none⟩ = some (.int .i64 x.v.cm) ∧ V.cell? ⟨w.heap.size, 1, none⟩ = some (.slice x.r.a x.r.n x.r.c) ∧ V.cell? ⟨w.heap.size, 2, none⟩ = some (.bool x.v.gn) ∧ RowV (V.alloc (.cells (vCells x).toArray 178)) (.slice v.a v.n v.c) L ∧ w.grownBy (V.alloc (.cells (vCells x).toArray 178)) (Value.slice v.a v.n v.c).ownBlock ∧ w.heap.size ≤ V.heap.size) := fun V hV => by
  have hb := (hV.block _ (blk_lt hbx)).trans hbx
  have hwV := below_step hB0 hV
  have hwA := below_step hwV (below_alloc V (.cells (vCells x).toArray 178))
  exact ⟨cell_of hb rfl, cell_of hb rfl, cell_of hb rfl, row_on h hwA, grown_below _ hwA, hwV.size⟩
 have HZ : Hid (W = w.alloc (.cells #[.int .i64 x.v.cm, .slice x.r.a x.r.n x.r.c, .bool x.v.gn] 178)) := hW
 have hone : ∀ u ∈ vCells x, u.oneCell' = true := fun u hu => cV_one [x] u (by simpa [cV] using hu)
 have HN : Hid (∀ V : World, ∀ j u, (vCells x)[j]? = some u → (V.alloc (.cells (vCells x).toArray 178)).cell? ((⟨V.heap.size, 0, none⟩ : Addr).add j) = some u) := fun V j u hj => World.news_of_block (new_blk V _) j u hj
 have HS : Hid (W.heap.size = w.heap.size + 1) := by show _ = _; rw [hW]; simp [go_sem]
 by_cases hle : lastC (pvs L) = x.v.cm
 · rcases snoc_cases L with rfl | ⟨D, y, rfl⟩
   · rw [show lastC (pvs []) = 0 from rfl] at hle; omega
   · have hnd : v.n = D.length + 1 := by rw [hn]; simp
     obtain ⟨g0, c0, cur, e0, hg0, hnc, hcm, hcs, hx0⟩ := row_open h (by simp)
     simp only [Value.slice.injEq] at e0
     obtain ⟨ea, _, ec⟩ := e0
     have eW : withM (D ++ [y]) x = D ++ [x] := by unfold withM; rw [if_pos hle, List.dropLast_concat]
     rw [eW]
     have hD : D.length ≤ c0 := by simp at hnc; omega
     have hrow : ∀ V : World, V.heap[g0]? = some (.cells cur 178 (0, 0)) → RowV V (.slice (some ⟨g0, 0, none⟩) D.length c0) D := fun V hV => by
      refine row_mk hV hD hcm hcs ?_
      have e1 : cV D = (cV (D ++ [y])).take (D.length * 3) := by rw [cV_take, List.take_left]
      rw [e1, ← hx0, List.take_take, Nat.min_eq_left (by simp; omega)]
     have HR2 : Hid (∀ V, Below W.heap.size W V → V.cell? ⟨w.heap.size, 0, none⟩ = some (.int .i64 x.v.cm) ∧ V.cell? ⟨w.heap.size, 1, none⟩ = some (.slice x.r.a x.r.n x.r.c) ∧ V.cell? ⟨w.heap.size, 2, none⟩ = some (.bool x.v.gn) ∧ (V.alloc (.cells (vCells x).toArray 178)).ownsRow 0 178 3 (.slice (some ⟨g0, 0, none⟩) D.length c0) D.length (cV D) ∧ w.grownBy (V.alloc (.cells (vCells x).toArray 178)) (some g0) ∧ w.heap.size ≤ V.heap.size) := fun V hV => by
      obtain ⟨r1, r2, r3, _, r5, r6⟩ := HR.out V hV
      rw [ea] at r5
      have hb : Below w.heap.size w (V.alloc (.cells (vCells x).toArray 178)) := by
       have := below_step (by rw [hW]; exact below_alloc _ _ : Below w.heap.size w W) hV
       exact below_step this (below_alloc V _)
      exact ⟨r1, r2, r3, hrow _ ((hb.block g0 (blk_lt hg0)).trans hg0), r5, r6⟩
     have HLe : Hid (lastC (pvs (D ++ [y])) = x.v.cm) := hle
     rw [hle] at HL
     have hd1 : D.length ≤ 999999 := by simp at hl; omega
     have hw := wraps_i64 (D.length : Int) (by omega) (by omega)
     rw [← ec] at hD HR2
     have hdc : (D.length : Int) ≤ v.c := by omega
     have HT : Hid (∀ V g cap w1, Below W.heap.size W V → w1.ownsRow 0 178 3 (.slice (some ⟨g, 0, none⟩) (D.length + 1) cap) (D.length + 1) (cV D ++ vCells x) → (V.alloc (.cells (vCells x).toArray 178)).grownBy w1 (some g0) → (some g0 = some g ∨ g = (V.alloc (.cells (vCells x).toArray 178)).heap.size) → WithTo w v (D ++ [x]) (.returned (.slice (some ⟨g, 0, none⟩) (D.length + 1) cap)) w1) := fun V g cap w1 hV h1 h2 h3 => by
      obtain ⟨_, _, _, _, r5, r6⟩ := HR2.out V hV
      have e3 : (Value.slice v.a v.n v.c).ownBlock = some g ∨ w.heap.size ≤ g := by
       rw [ea]
       rcases h3 with e | e
       · exact .inl e
       · rw [e]; right; simp [go_sem]; omega
      have e4 : w.grownBy w1 (Value.slice v.a v.n v.c).ownBlock := by rw [ea]; exact grown_trans r5 h2
      refine ⟨g, cap, by simp, ?_, e4, e3⟩
      unfold RowV
      rw [cV_append, List.length_append]
      simpa [cV] using h1
     rw [ea, hnd] at HL ⊢
     clear HR hn ea ec hx0 hg0 hnc hcm hcs hrow eW hle hnd hl
     generalize v.c = vc at *
     generalize D.length = d at *
     have heq : (x.v.cm == x.v.cm) = true := by simp
     go_enter Tryz.func80, Tryz.ntmps80
     go_wp2_with fail
     rw [← hW]
     clear hW
     refine wp_region_noPanic ?_
     go_region_held (fun V => Below W.heap.size W V ∧ V.cell? ⟨w.heap.size, 0, none⟩ = some (.int .i64 x.v.cm))
      (first | (exact HK.out _ (below_drew _)) | (exact HK.out _ (below_step (by assumption : Below W.heap.size W _ ∧ _).1 (by assumption))) | assumption)
      (first
        | (go_at_call 78; refine (HL.out _ (by assumption : Below W.heap.size W _ ∧ _).1).mono ?_; rintro e w' ⟨rfl, rfl⟩)
        | fail)
     refine NoPanic.normal ?_
     obtain ⟨r1, r2, r3, HRow, _, _⟩ := HR2.out W.drew (below_drew W)
     have HRw := Lib.hid HRow
     have HTW := Lib.hid (HT.out W.drew · · · (below_drew W))
     have HNW := Lib.hid (HN.out W.drew)
     have hvc : vCells x = [.int .i64 x.v.cm, .slice x.r.a x.r.n x.r.c, .bool x.v.gn] := rfl
     clear HRow HT HR2 HN HL HK HLe HZ
     go_wp2_with (first
      | (at_builtin; refine wpList_append_lies _ rfl _ _ 154 rfl 0 178 i0 _ 3 40 Tryz.underlying154 hi0 hz0 hz1 hz2 rfl (by decide) _ d _ rfl HRw.out ⟨_, 0, none⟩ 1 1 (vCells x) rfl rfl HNW.out hone (by decide) (by unfold maxLen; omega) (by omega) (Nat.zero_le _) _ rfl ?_
         intro g cap w1 hown hgrow hat hlt
         have HZ := Lib.hid (HTW.out g cap w1 hown hgrow hat)
         clear hown hgrow hat hlt HTW HRw HNW)
      | fail)
     go_ret
     exact HZ.out
 · have eW : withM L x = L ++ [x] := by unfold withM; rw [if_neg hle]
   rw [eW]
   have HR2 : Hid (∀ V, Below W.heap.size W V → V.cell? ⟨w.heap.size, 0, none⟩ = some (.int .i64 x.v.cm) ∧ V.cell? ⟨w.heap.size, 1, none⟩ = some (.slice x.r.a x.r.n x.r.c) ∧ V.cell? ⟨w.heap.size, 2, none⟩ = some (.bool x.v.gn) ∧ (V.alloc (.cells (vCells x).toArray 178)).ownsRow 0 178 3 (.slice v.a v.n v.c) v.n (cV L) ∧ w.grownBy (V.alloc (.cells (vCells x).toArray 178)) (Value.slice v.a v.n v.c).ownBlock ∧ w.heap.size ≤ V.heap.size) := fun V hV => by
    have := HR.out V hV
    unfold RowV at this
    rw [← hn] at this
    exact this
   have HT : Hid (∀ V g cap w1, Below W.heap.size W V → w1.ownsRow 0 178 3 (.slice (some ⟨g, 0, none⟩) (v.n + 1) cap) (v.n + 1) (cV L ++ vCells x) → (V.alloc (.cells (vCells x).toArray 178)).grownBy w1 (Value.slice v.a v.n v.c).ownBlock → ((Value.slice v.a v.n v.c).ownBlock = some g ∨ g = (V.alloc (.cells (vCells x).toArray 178)).heap.size) → WithTo w v (L ++ [x]) (.returned (.slice (some ⟨g, 0, none⟩) (v.n + 1) cap)) w1) := fun V g cap w1 hV h1 h2 h3 => by
    obtain ⟨_, _, _, _, r5, r6⟩ := HR2.out V hV
    have e3 : (Value.slice v.a v.n v.c).ownBlock = some g ∨ w.heap.size ≤ g := by
     rcases h3 with e | e
     · exact .inl e
     · rw [e]; right; simp [go_sem]; omega
    refine ⟨g, cap, by simp [hn], ?_, grown_trans r5 h2, e3⟩
    unfold RowV
    rw [cV_append, List.length_append]
    simpa [cV, hn] using h1
   have hnl : v.n ≤ 1000000 := by omega
   have hne : (lastC (pvs L) == x.v.cm) = false := beq_false_of_ne hle
   clear HR hn eW hle hl
   generalize lastC (pvs L) = lc at *
   generalize v.n = n at *
   generalize v.c = vc at *
   generalize v.a = va at *
   go_enter Tryz.func80, Tryz.ntmps80
   go_wp2_with fail
   rw [← hW]
   clear hW
   refine wp_region_noPanic ?_
   go_region_held (fun V => Below W.heap.size W V ∧ V.cell? ⟨w.heap.size, 0, none⟩ = some (.int .i64 x.v.cm))
    (first | (exact HK.out _ (below_drew _)) | (exact HK.out _ (below_step (by assumption : Below W.heap.size W _ ∧ _).1 (by assumption))) | assumption)
    (first
      | (go_at_call 78; refine (HL.out _ (by assumption : Below W.heap.size W _ ∧ _).1).mono ?_; rintro e w' ⟨rfl, rfl⟩)
      | fail)
   refine NoPanic.normal ?_
   obtain ⟨r1, r2, r3, HRow, _, _⟩ := HR2.out W.drew (below_drew W)
   have HRw := Lib.hid HRow
   have HTW := Lib.hid (HT.out W.drew · · · (below_drew W))
   have HNW := Lib.hid (HN.out W.drew)
   have hvc : vCells x = [.int .i64 x.v.cm, .slice x.r.a x.r.n x.r.c, .bool x.v.gn] := rfl
   clear HRow HT HR2 HN HL HK HZ
   go_wp2_with (first
    | (at_builtin; refine wpList_append_lies _ rfl _ _ 154 rfl 0 178 i0 _ 3 40 Tryz.underlying154 hi0 hz0 hz1 hz2 rfl (by decide) _ n _ rfl HRw.out ⟨_, 0, none⟩ 1 1 (vCells x) rfl rfl HNW.out hone (by decide) (by unfold maxLen; omega) (by omega) (Nat.zero_le _) _ rfl ?_
       intro g cap w1 hown hgrow hat hlt
       have HZ := Lib.hid (HTW.out g cap w1 hown hgrow hat)
       clear hown hgrow hat hlt HTW HRw HNW)
    | fail)
   go_ret
   exact HZ.out
end Go.Proofs.YtalmanfjiblhcaaGreat
namespace Go.Proofs.YtalmanfjiblhcaaGreat
open Go.RowKit Go.Sort
def Up (P : It → Bool) : Prop := ∀ x y : It, ltb x.1 y.1 = true → P x = true → P y = true
def Dn (P : It → Bool) : Prop := ∀ x y : It, ltb x.1 y.1 = true → P y = true → P x = true
theorem pre_fails {P : It → Bool} (hP : Up P) : ∀ (A : List It) (L : List (List It)), Srt (pre A L) → (∀ x ∈ A, P x = false) → ∀ y ∈ pre A L, P y = false
 | [], _, _, _ => by simp [pre]
 | _ :: _, [], _, _ => by simp [pre]
 | x :: A, l :: L, hs, h => by
   intro y hy
   simp only [pre] at hs hy
   have hp := List.pairwise_append.1 hs
   rcases List.mem_append.1 hy with hy | hy
   · have h1 := hp.2.2 y hy x (by simp)
     have h2 := h x (by simp)
     cases e : P y with
     | false => rfl
     | true => rw [hP y x h1 e] at h2; cases h2
   · rcases List.mem_cons.1 hy with rfl | hy
     · exact h _ (by simp)
     · exact pre_fails hP A L (List.pairwise_cons.1 hp.2.1).2 (fun z hz => h z (by simp [hz])) y hy
theorem from_inner {P : It → Bool} (hP : Up P) {A B : List It} {L1 L2 : List (List It)} {l : List It} (hs : Srt (pre A L1 ++ (l ++ suf B L2))) (hA : ∀ x ∈ A, P x = false) (hB : ∀ x ∈ B, P x = true) (h2 : B.length = L2.length) :
 (pre A L1 ++ (l ++ suf B L2)).find? P = (l.find? P).or B.head? := by
 have hp := List.pairwise_append.1 hs
 have hf := pre_fails hP A L1 hp.1 hA
 rw [List.find?_append, List.find?_eq_none.2 (fun x hx => by rw [hf x hx]; simp), Option.none_or, List.find?_append]
 congr 1
 cases B with
 | nil => simp [suf]
 | cons b B =>
   cases L2 with
   | nil => simp at h2
   | cons m L2 => simp [suf, hB b (by simp)]
theorem from_leaf {P : It → Bool} {A B : List It} (hA : ∀ x ∈ A, P x = false) (hB : ∀ x ∈ B, P x = true) : (A ++ B).find? P = B.head? := by
 rw [List.find?_append, List.find?_eq_none.2 (fun x hx => by rw [hA x hx]; simp), Option.none_or]
 cases B with
 | nil => rfl
 | cons b B => simp [hB b (by simp)]
def lastL (P : It → Bool) (l : List It) : Option It := (l.filter P).getLast?
theorem pre_meets {P : It → Bool} (hP : Dn P) : ∀ (A : List It) (L : List (List It)), Srt (pre A L) → (∀ x ∈ A, P x = true) → ∀ y ∈ pre A L, P y = true
 | [], _, _, _ => by simp [pre]
 | _ :: _, [], _, _ => by simp [pre]
 | x :: A, l :: L, hs, h => by
   intro y hy
   simp only [pre] at hs hy
   have hp := List.pairwise_append.1 hs
   rcases List.mem_append.1 hy with hy | hy
   · exact hP y x (hp.2.2 y hy x (by simp)) (h x (by simp))
   · rcases List.mem_cons.1 hy with rfl | hy
     · exact h _ (by simp)
     · exact pre_meets hP A L (List.pairwise_cons.1 hp.2.1).2 (fun z hz => h z (by simp [hz])) y hy
theorem suf_fails {P : It → Bool} (hP : Dn P) : ∀ (B : List It) (L : List (List It)), Srt (suf B L) → (∀ x ∈ B, P x = false) → ∀ y ∈ suf B L, P y = false
 | [], _, _, _ => by simp [suf]
 | _ :: _, [], _, _ => by simp [suf]
 | x :: B, l :: L, hs, h => by
   intro y hy
   simp only [suf] at hs hy
   have hp := List.pairwise_cons.1 hs
   rcases List.mem_cons.1 hy with rfl | hy
   · exact h _ (by simp)
   · rcases List.mem_append.1 hy with hy1 | hy1
     · have h1 := hp.1 y hy
       have h2 := h x (by simp)
       cases e : P y with
       | false => rfl
       | true => rw [hP x y h1 e] at h2; cases h2
     · exact suf_fails hP B L (List.pairwise_append.1 hp.2).2.1 (fun z hz => h z (by simp [hz])) y hy1
theorem pre_last : ∀ (A : List It) (L : List (List It)), A.length = L.length → (pre A L).getLast? = A.getLast?
 | [], [], _ => rfl
 | [x], [l], _ => by simp [pre]
 | x :: y :: A, l :: m :: L, h => by
   have := pre_last (y :: A) (m :: L) (by simpa using h)
   rw [pre, List.getLast?_append, List.getLast?_cons, this, List.getLast?_cons_cons, List.getLast?_cons]
   simp
theorem getLast?_append' (a b : List It) : (a ++ b).getLast? = b.getLast?.or a.getLast? := List.getLast?_append
theorem to_inner {P : It → Bool} (hP : Dn P) {A B : List It} {L1 L2 : List (List It)} {l : List It} (hs : Srt (pre A L1 ++ (l ++ suf B L2))) (hA : ∀ x ∈ A, P x = true) (hB : ∀ x ∈ B, P x = false) (h1 : A.length = L1.length) :
 lastL P (pre A L1 ++ (l ++ suf B L2)) = (lastL P l).or A.getLast? := by
 have hp := List.pairwise_append.1 hs
 have hq := List.pairwise_append.1 hp.2.1
 have hf := pre_meets hP A L1 hp.1 hA
 have hg := suf_fails hP B L2 hq.2.1 hB
 have e2 : (suf B L2).filter P = [] := List.filter_eq_nil_iff.2 fun x hx => by rw [hg x hx]; simp
 unfold lastL
 rw [List.filter_append, List.filter_append, List.filter_eq_self.2 hf, e2, List.append_nil, getLast?_append', pre_last A L1 h1]
theorem to_leaf {P : It → Bool} {A B : List It} (hA : ∀ x ∈ A, P x = true) (hB : ∀ x ∈ B, P x = false) : lastL P (A ++ B) = A.getLast? := by
 have e2 : B.filter P = [] := List.filter_eq_nil_iff.2 fun x hx => by rw [hB x hx]; simp
 unfold lastL
 rw [List.filter_append, List.filter_eq_self.2 hA, e2, List.append_nil]
def frP (k : ByteArray) (behind : Bool) (x : It) : Bool := if behind then ltb k x.1 else !(ltb x.1 k)
theorem frP_up (k : ByteArray) (b : Bool) : Up (frP k b) := by
 intro x y h hx
 cases b with
 | true => exact ltb_trans hx h
 | false =>
   simp only [frP, Bool.false_eq_true, if_false, Bool.not_eq_true'] at hx ⊢
   rcases ltb_cases x.1 k with c | c | c
   · rw [c] at hx; cases hx
   · rw [← c]; exact ltb_asymm h
   · exact ltb_asymm (ltb_trans c h)
theorem frP_hi {k : ByteArray} {b : Bool} {x : It} (h : ltb k x.1 = true) : frP k b x = true := by cases b <;> simp [frP, h, ltb_asymm h]
theorem frP_lo {k : ByteArray} {b : Bool} {x : It} (h : ltb x.1 k = true) : frP k b x = false := by cases b <;> simp [frP, h, ltb_asymm h]
def tellV (o : Option It) : Value := match o with | none => .tuple #[.string ⟨#[]⟩, .slice none 0 0, .bool false] | some x => .tuple #[.string x.1, .slice x.2.a x.2.n x.2.c, .bool true]
def Best (w : World) (v : Value) (o : Option It) : Prop := (v = .pointer none ∧ o = none) ∨ ∃ g j x, v = .pointer (some ⟨g, j, none⟩) ∧ o = some x ∧ g < w.heap.size ∧ w.cell? ⟨g, j, none⟩ = some (.string x.1) ∧ w.cell? ⟨g, j + 1, none⟩ = some (.slice x.2.a x.2.n x.2.c)
theorem Best.on {w w' : World} {v : Value} {o : Option It} (h : Best w v o) (hb : Below w.heap.size w w') : Best w' v o := by
 rcases h with h | ⟨g, j, x, e1, e2, h1, h2, h3⟩
 · exact .inl h
 · exact .inr ⟨g, j, x, e1, e2, Nat.lt_of_lt_of_le h1 hb.size, (hb.cell (p := ⟨g, j, none⟩) h1).trans h2, (hb.cell (p := ⟨g, j + 1, none⟩) h1).trans h3⟩
set_option maxRecDepth 100000 in
theorem tell_ {w : World} {v : Value} {o : Option It} (h : Best w v o) : Calls Tryz.prog 147 #[v] w fun e w' => e = .returned (tellV o) ∧ Below w.heap.size w w' := by
 rcases h with ⟨rfl, rfl⟩ | ⟨g, j, x, rfl, rfl, h1, h2, h3⟩
 · have HB := Lib.hid (Below.refl w.heap.size w)
   unfold tellV
   go_enter Tryz.func147, Tryz.ntmps147
   go_wp2_with fail
   go_ret3
   exact ⟨rfl, HB.out⟩
 · have HB := Lib.hid (below_drew w)
   obtain ⟨x1, x2⟩ := x
   simp only at h2 h3
   unfold tellV
   clear h1
   go_enter Tryz.func147, Tryz.ntmps147
   go_wp2_with fail
   go_region_held (fun V => V.cell? ⟨g, j, none⟩ = some (.string x1) ∧ V.cell? ⟨g, j + 1, none⟩ = some (.slice x2.a x2.n x2.c)) (go_keep) (fail)
   go_wp2_with fail
   go_ret3
   exact ⟨rfl, HB.out⟩
theorem Best.item {w : World} {M : Nat → Option Nd} {q : Nat} {n : Nd} {A B : List It} {x : It} (h : Store w M) (hq : M q = some n) (hI : n.its = A ++ x :: B) {g c : Nat} (hv : n.iv = .slice (some ⟨g, 0, none⟩) (A.length + B.length + 1) c) : Best w (.pointer (some ⟨g, A.length * 2, none⟩)) (some x) := by
 obtain ⟨g', c', e1, h1, h2, h3, _⟩ := h.item hq hI
 rw [hv] at e1
 simp only [Value.slice.injEq, Option.some.injEq, Addr.mk.injEq] at e1
 obtain ⟨⟨rfl, _⟩, _⟩ := e1
 exact .inr ⟨g, _, x, rfl, rfl, h1, h2, h3⟩
end Go.Proofs.YtalmanfjiblhcaaGreat
