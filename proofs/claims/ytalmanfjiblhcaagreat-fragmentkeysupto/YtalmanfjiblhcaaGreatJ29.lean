/- append, as a run; Apply: the changes of a commit, all asked ahead of the first that is done; The walk of Apply. -/
import Derived.Test.YtalmanfjiblhcaaGreatJ6
import Derived.Test.YtalmanfjiblhcaaGreatFgPut
namespace Go.Proofs.YtalmanfjiblhcaaGreat
open Go.RowKit Go.Sort
theorem exec_append {P : Program} {w w' : World} {a : Act} {o : Oper} {s x : Operand} {t : TypeId} {vs vx v' : Value} (ho : o.op = .call { callee := .builtin .append, args := #[s, x], argTypes := #[t, t] }) (hs : a.eval s = vs) (hx : a.eval x = vx) (hr : (Builtin.append_ #[t, t] o.type #[vs, vx]).run P w = .ok v' w') : (execOp a.eval o).run P w = .ok (.value v') w' := by
 unfold execOp
 simp only [ho, resolve, invoke, builtin, Sem.run_bind, Sem.run_pure, Result.andThen_ok, List.map_toArray, List.map_cons, List.map_nil, hs, hx, hr]
end Go.Proofs.YtalmanfjiblhcaaGreat
namespace Go.Proofs.YtalmanfjiblhcaaGreat
open Go.RowKit Go.Sort Go.Maps
def Qr (us : List Tb.TV) (b : Nat) (k tx : ByteArray) : Prop :=
 ∃ vs : List Rw.Val, tx = bs (Rw.rowB vs) ∧ Rw.kErr (colsAt us b) vs = 0 ∧ k = ⟨(Rw.kTxt (colsAt us b) vs).toArray⟩ ∧ (∀ v ∈ vs, Rw.inI v.n) ∧ Rw.wtV vs ≤ 1048576
structure Fg (w : World) (S : Nat → Prop) (K n ps : Nat) (bl : Nat → List Nat) (us : List Tb.TV) (x : FgM) : Prop where
 at' : FgAt w S K n ps bl us x
 bd : ∀ k, S k → k < w.heap.size
 ok : OkF (Qr us) K x
 cl : ∀ u ∈ us, u.cs.length ≤ 16
theorem Fg.on {w w' : World} {S : Nat → Prop} {K n ps : Nat} {bl : Nat → List Nat} {us : List Tb.TV} {x : FgM} (h : Fg w S K n ps bl us x) (hb : Below w.heap.size w w') : Fg w' S K n ps bl us x :=
 ⟨h.at'.on hb, fun k hk => Nat.lt_of_lt_of_le (h.bd k hk) hb.size, h.ok, h.cl⟩
theorem Fg.keep {w w' : World} {S : Nat → Prop} {K n ps : Nat} {bl : Nat → List Nat} {us : List Tb.TV} {x : FgM} (h : Fg w S K n ps bl us x) {B : Nat → Prop} (hf : Frame B w w') (hB : ∀ k, k < w.heap.size → S k → ¬ B k) (hy : ByK w w') : Fg w' S K n ps bl us x :=
 ⟨h.at'.keep hf hB hy, fun k hk => Nat.lt_of_lt_of_le (h.bd k hk) hf.size, h.ok, h.cl⟩
theorem Fg.base {w : World} {S : Nat → Prop} {K n ps : Nat} {bl : Nat → List Nat} {us : List Tb.TV} {x : FgM} (h : Fg w S K n ps bl us x) : ∃ gl cl BC m, FsB w ps gl n cl BC m ∧ Tb.CatIn w 0 BC us ∧ us.length ≤ 32 ∧ 0 < n ∧ n ≤ 16 := by
 obtain ⟨gl, cl, m, BC, ca, cc, L, D, pt, Ft, hd, rfl⟩ := h.at'
 exact ⟨gl, cl, BC, m, hd.fs, hd.cat.cat, hd.cat.len, hd.num⟩
theorem wC_q {us : List Tb.TV} {x : WV} (h : wE us x = 0) (ho : x.Ok) : (wC us x).t < us.length ∧ ((wC us x).gn = false → Qr us (wC us x).t (wC us x).k (wC us x).tx) := by
 rcases tab_cases x.nm us with ⟨e1, _⟩ | ⟨i, e1, hi, _⟩
 · rw [wE_none e1] at h; omega
 · rw [wE_at e1 hi] at h
   rw [wC_at e1 hi]
   cases hg : x.gn with
   | true => exact ⟨hi, fun e => by simp at e⟩
   | false =>
     rw [hg] at h
     simp only [Bool.false_eq_true, if_false] at h ⊢
     exact ⟨hi, fun _ => ⟨x.vs, rfl, by rw [colsAt_lt hi]; exact h, by rw [colsAt_lt hi], ho.1, ho.2⟩⟩
theorem fput_ {w : World} {S : Nat → Prop} {K n ps : Nat} {bl : Nat → List Nat} {us : List Tb.TV} {x : FgM} (h : Fg w S K n ps bl us x) {a : Nat} (ha : a < n) (c : Chg) (hct : c.t < us.length) {r : Vl} (hr : c.gn = false → RowAt w r c.tx) (hq : c.gn = false → Qr us c.t c.k c.tx) (hK : K + 1 ≤ 900000) (h1 : 1 ≤ x.cm a) :
 Calls Tryz.prog 22 #[.pointer (some ⟨ps, 0, none⟩), .int .i64 a, .agg #[.int .i64 c.t, .string c.k, .slice r.a r.n r.c, .bool c.gn]] w fun e w' => e = .returned (.tuple #[]) ∧ Fg w' (grown S w w') (K + 1) n ps bl us (putF a c x) ∧ Frame S w w' ∧ ByK w w' := by
 obtain ⟨_, _, _, _, _, _, h32, _, h16⟩ := h.base
 obtain ⟨gl, cl, m, BC, ca, cc, L, D, pt, Ft, hd, rfl⟩ := h.at'
 have hn : nVer (x.fr a c.t) ≤ 900000 := Nat.le_trans (h.ok.num a c.t) (by omega)
 have hfar : far a c.t := ⟨by omega, by omega⟩
 have key : ∀ e w', FPutTo w S K L.length ps bl us (putF a c x) e w' → e = .returned (.tuple #[]) ∧ Fg w' (grown S w w') (K + 1) L.length ps bl us (putF a c x) ∧ Frame S w w' ∧ ByK w w' := fun e w' ⟨h1', h2, h3, h4⟩ =>
  ⟨h1', ⟨h2, fun k hk => hk.elim (fun q => Nat.lt_of_lt_of_le (h.bd k q) h3.size) fun q => q.2, h.ok.put h1 c hq, h.cl⟩, h3, h4⟩
 cases hpt : pt a c.t with
 | none => exact (fput_none hd ha c hfar hr hn h1 (h.ok.late a c.t c.k) (by omega) hpt).mono key
 | some q => exact (fput_some hd ha c hfar hr hn h1 (h.ok.late a c.t c.k) (by omega) hpt).mono key
def WrsIn (w : World) (a : Option Addr) (ws : List WV) : Prop :=
 ∀ i (h : i < ws.length), (∃ b o, a = some ⟨b, o, none⟩ ∧ w.cell? ⟨b, o + i * 3, none⟩ = some (.string ws[i].nm) ∧ w.cell? ⟨b, o + i * 3 + 1, none⟩ = some (.bool ws[i].gn) ∧ w.cell? ⟨b, o + i * 3 + 2, none⟩ = some (.slice ws[i].a ws[i].vs.length ws[i].c)) ∧ ws[i].In w
theorem WrsIn.on {w w' : World} {a : Option Addr} {ws : List WV} (h : WrsIn w a ws) (hb : Below w.heap.size w w') : WrsIn w' a ws := fun i hi => by
 obtain ⟨⟨b, o, e, h0, h1, h2⟩, h3⟩ := h i hi
 exact ⟨⟨b, o, e, (hb.cell (block_lt_of_cell h0)).trans h0, (hb.cell (block_lt_of_cell h1)).trans h1, (hb.cell (block_lt_of_cell h2)).trans h2⟩, h3.on hb⟩
structure CgV where
 t : Nat
 k : ByteArray
 r : Vl
 gn : Bool
def cgC (c : CgV) : List Value := [.int .i64 c.t, .string c.k, .slice c.r.a c.r.n c.r.c, .bool c.gn]
def cgCs (l : List CgV) : List Value := l.flatMap cgC
theorem cgCs_len (l : List CgV) : (cgCs l).length = l.length * 4 := by
 induction l with
 | nil => rfl
 | cons x l ih => simp only [cgCs, List.flatMap_cons, List.length_append, List.length_cons] at *; simp only [cgC, List.length_cons, List.length_nil]; omega
theorem cgCs_at : ∀ (l : List CgV) (i : Nat) (h : i < l.length), (cgCs l)[i * 4]? = some (.int .i64 l[i].t) ∧ (cgCs l)[i * 4 + 1]? = some (.string l[i].k) ∧ (cgCs l)[i * 4 + 2]? = some (.slice l[i].r.a l[i].r.n l[i].r.c) ∧ (cgCs l)[i * 4 + 3]? = some (.bool l[i].gn)
 | x :: l, 0, _ => ⟨rfl, rfl, rfl, rfl⟩
 | x :: l, i + 1, h => by
   have ih := cgCs_at l i (by simpa using h)
   have e : cgCs (x :: l) = .int .i64 x.t :: .string x.k :: .slice x.r.a x.r.n x.r.c :: .bool x.gn :: cgCs l := rfl
   rw [e, show (i + 1) * 4 = i * 4 + 1 + 1 + 1 + 1 by omega]
   simp only [List.getElem?_cons_succ, List.getElem_cons_succ]
   exact ih
theorem cgCs_one (l : List CgV) : ∀ u ∈ cgCs l, u.oneCell' = true := fun u hu => by
 obtain ⟨c, _, hc⟩ := List.mem_flatMap.1 hu
 simp only [cgC, List.mem_cons, List.not_mem_nil, or_false] at hc
 rcases hc with rfl | rfl | rfl | rfl <;> rfl
def RowC (w : World) (B : Nat) (v : Value) (l : List CgV) : Prop := w.ownsRow B 81 4 v l.length (cgCs l)
theorem infoCg : (Tryz.prog.info? 81).map (fun i => (i.zero, i.size, i.bytes)) = some (some (.agg #[.int .i64 0, .string ⟨#[]⟩, .slice none 0 0, .bool false]), 4, 56) := by kernel_rfl
theorem rowC_on {w w' : World} {B : Nat} {v : Value} {l : List CgV} (h : RowC w B v l) (hb : Below w.heap.size w w') : RowC w' B v l := row_on h hb
theorem app_cg {w : World} {B b : Nat} {v : Value} {l : List CgV} {x : CgV} (hown : RowC w B v l) (hb : w.heap[b]? = some (.cells #[.int .i64 x.t, .string x.k, .slice x.r.a x.r.n x.r.c, .bool x.gn] 81 (0, 0))) (hl : l.length ≤ 1000000) (hN : B ≤ w.heap.size) :
 ∃ a n c w', (Builtin.append_ #[78, 78] 78 #[v, .slice (some ⟨b, 0, none⟩) 1 1]).run Tryz.prog w = .ok (.slice a n c) w' ∧ RowC w' B (.slice a n c) (l ++ [x]) ∧ w.grownBy w' v.ownBlock := by
 obtain ⟨i0, hi, hz0, hz1, hz2⟩ := info_parts infoCg
 have hnews : ∀ j u, (cgC x)[j]? = some u → w.cell? ((⟨b, 0, none⟩ : Addr).add j) = some u := fun j u hj => by
  rw [Addr.add_lit, Nat.zero_add]
  exact cell_of hb (by simpa [cgC] using hj)
 obtain ⟨v', w', hr, h2, h3, _, h5⟩ := run_append_own_at (P := Tryz.prog) w B 78 78 81 i0 (.agg #[.int .i64 0, .string ⟨#[]⟩, .slice none 0 0, .bool false]) 4 56 Tryz.underlying78 hi hz0 hz1 hz2 rfl (by decide) v l.length (cgCs l) hown ⟨b, 0, none⟩ 1 1 (cgC x) rfl hnews (fun u hu => cgCs_one [x] u (by simpa [cgCs] using hu)) (by unfold maxLen; omega) (by omega) hN
 have ho : RowC w' B v' (l ++ [x]) := by
  unfold RowC
  have e : cgCs (l ++ [x]) = cgCs l ++ cgC x := by simp [cgCs]
  rw [e, List.length_append]
  exact h2
 obtain ⟨a, c, rfl, _⟩ := row_shape ho
 exact ⟨a, _, c, w', hr, ho, h3⟩
end Go.Proofs.YtalmanfjiblhcaaGreat
namespace Go.Proofs.YtalmanfjiblhcaaGreat
open Go.RowKit Go.Sort Go.Maps
def wsE (us : List Tb.TV) : List WV → Int
 | [] => 0
 | x :: r => if wE us x ≠ 0 then wE us x else wsE us r
theorem wsE_bad {us : List Tb.TV} : ∀ {ws : List WV} {k : Nat} (h : k < ws.length), (∀ j (h : j < ws.length), j < k → wE us ws[j] = 0) → wE us ws[k] ≠ 0 → wsE us ws = wE us ws[k]
 | x :: r, 0, h, _, hk => by simp only [wsE, List.getElem_cons_zero] at *; rw [if_pos hk]
 | x :: r, k + 1, h, hj, hk => by
   have h0 := hj 0 (by simp) (by omega)
   simp only [List.getElem_cons_zero] at h0
   have := wsE_bad (ws := r) (k := k) (by simpa using h) (fun j hj' hlt => by have := hj (j + 1) (by simp; omega) (by omega); simpa using this) (by simpa using hk)
   simp only [wsE, List.getElem_cons_succ]
   rw [if_neg (by simp [h0]), this]
theorem wsE_ok {us : List Tb.TV} : ∀ {ws : List WV}, (∀ j (h : j < ws.length), wE us ws[j] = 0) → wsE us ws = 0
 | [], _ => rfl
 | x :: r, h => by
   have h0 := h 0 (by simp)
   simp only [List.getElem_cons_zero] at h0
   simp only [wsE]
   rw [if_neg (by simp [h0])]
   exact wsE_ok fun j hj => by have := h (j + 1) (by simp; omega); simpa using this
structure ChsAt (us : List Tb.TV) (ws : List WV) (w : World) (k : Nat) (cv : Value) (cl : List CgV) (wr : World) : Prop where
 row : RowC wr w.heap.size cv cl
 len : cl.length = k
 each : ∀ j (h : j < cl.length) (h2 : j < ws.length), cl[j].t = (wC us ws[j]).t ∧ cl[j].k = (wC us ws[j]).k ∧ cl[j].gn = (wC us ws[j]).gn ∧ RowAt wr cl[j].r (wC us ws[j]).tx
 good : ∀ j (h : j < ws.length), j < k → wE us ws[j] = 0
 bw : Below w.heap.size w wr
def ApplyTo (w : World) (S : Nat → Prop) (K n ps : Nat) (bl : Nat → List Nat) (us : List Tb.TV) (x : FgM) (i : Int) (ws : List WV) (e : Ending) (w' : World) : Prop :=
 ((if hasB n i then wsE us ws else 1) ≠ 0 ∧ e = .returned (.iface 77 (.int .i64 (if hasB n i then wsE us ws else 1))) ∧ Below w.heap.size w w') ∨
 ((if hasB n i then wsE us ws else 1) = 0 ∧ e = .returned .nilIface ∧ Fg w' (grown S w w') (K + ws.length) n ps bl us (applyF i.toNat (ws.map (wC us)) x) ∧ Frame S w w' ∧ ByK w w')
theorem FgD.widen {w : World} {S T : Nat → Prop} {K ps : Nat} {bl : Nat → List Nat} {us : List Tb.TV} {x : FgM} {gl cl m BC : Nat} {ca : Option Addr} {cc : Nat} {L : List LvV} {D : DataW Unit} {pt : Nat → Nat → Option Nat} {Ft : Nat → Nat → Nat → Prop}
 (h : FgD w S K ps bl us x gl cl m BC ca cc L D pt Ft) (hs : ∀ k, S k → T k) : FgD w T K ps bl us x gl cl m BC ca cc L D pt Ft :=
 ⟨h.blk, h.lev, h.lvl, h.num, h.bin, h.cat, h.map, h.pts, h.fam, ⟨hs _ h.own.1, hs _ h.own.2.1, hs _ h.own.2.2.1, h.own.2.2.2⟩, fun a b k hk => ⟨hs _ (h.fts a b k hk).1, (h.fts a b k hk).2⟩, h.apart, fun k hk => ⟨hs _ (h.conC k hk).1, (h.conC k hk).2⟩, fun i hi b o e => ⟨hs _ (h.conL i hi b o e).1, (h.conL i hi b o e).2⟩⟩
theorem Fg.widen {w : World} {S T : Nat → Prop} {K n ps : Nat} {bl : Nat → List Nat} {us : List Tb.TV} {x : FgM} (h : Fg w S K n ps bl us x) (hs : ∀ k, S k → T k) (hT : ∀ k, T k → k < w.heap.size) : Fg w T K n ps bl us x := by
 obtain ⟨gl, cl, m, BC, ca, cc, L, D, pt, Ft, hd, e⟩ := h.at'
 exact ⟨⟨gl, cl, m, BC, ca, cc, L, D, pt, Ft, hd.widen hs, e⟩, hT, h.ok, h.cl⟩
theorem Fg.bump {w : World} {S : Nat → Prop} {K n ps : Nat} {bl : Nat → List Nat} {us : List Tb.TV} {x : FgM} (h : Fg w S K n ps bl us x) {a : Nat} (ha : a < n) : ∃ gl cl : Nat, (∃ BC m, FsB w ps gl n cl BC m) ∧ n ≤ cl ∧ w.cell? ⟨gl, a * 3 + 1, none⟩ = some (.int .i64 (x.cm a : Int)) ∧ w.frozen? ⟨gl, a * 3 + 1, none⟩ = false ∧ ∀ W', W' = w.setCell ⟨gl, a * 3 + 1, none⟩ (.int .i64 ((x.cm a : Int) + 1)) → Fg W' S K n ps bl us (bumpF a x) ∧ Frame S w W' ∧ ByK w W' := by
 obtain ⟨gl, cl, m, BC, ca, cc, L, D, pt, Ft, hd, rfl⟩ := h.at'
 refine ⟨gl, cl, ⟨BC, m, hd.fs⟩, hd.lev.le, ?_, hd.lev.free _, fun W' e => ?_⟩
 · rw [← (hd.lvl a ha).1]; exact (hd.lev.cells ha).2.1
 · obtain ⟨h1, h2, h3⟩ := hd.bump ha
   rw [show ((x.cm a + 1 : Nat) : Int) = (x.cm a : Int) + 1 by omega, ← e] at h1 h2 h3
   exact ⟨⟨⟨_, _, _, _, _, _, _, _, _, _, h1, by rw [List.length_set]⟩, fun k hk => Nat.lt_of_lt_of_le (h.bd k hk) h2.size, h.ok.bump a, h.cl⟩, h2, h3⟩
structure DoneAt (S : Nat → Prop) (K n ps : Nat) (bl : Nat → List Nat) (us : List Tb.TV) (x : FgM) (A : Nat) (cs : List Chg) (wb : World) (j : Nat) (wr : World) : Prop where
 fg : Fg wr (grown S wb wr) (K + j) n ps bl us (putsF A (cs.take j) (bumpF A x))
 fr : Frame S wb wr
 by' : ByK wb wr
set_option maxRecDepth 100000 in
set_option maxHeartbeats 4000000 in
theorem fapply_ {w : World} {S : Nat → Prop} {K n ps : Nat} {bl : Nat → List Nat} {us : List Tb.TV} {x : FgM} (h : Fg w S K n ps bl us x) (i : Int) {a : Option Addr} {c : Nat} {ws : List WV} (hw : WrsIn w a ws) (hok : ∀ y ∈ ws, y.Ok) (hK : K + ws.length ≤ 800000) (hcm : ∀ j, x.cm j ≤ 1000000) :
 Calls Tryz.prog 7 #[.pointer (some ⟨ps, 0, none⟩), .int .i64 i, .slice a ws.length c] w (ApplyTo w S K n ps bl us x i ws) := by
 obtain ⟨gl, cl0, BC, m, hfs, hcat, h32, hn0, hn16⟩ := h.base
 have HH := Lib.hid (fhas_ hfs i)
 cases hb : hasB n i with
 | false =>
   have HBad : Hid (ApplyTo w S K n ps bl us x i ws (.returned (.iface 77 (.int .i64 1))) w) := by
    refine .inl ?_
    rw [hb]
    exact ⟨by simp, by simp, Below.refl _ _⟩
   generalize ApplyTo w S K n ps bl us x i ws = Q at *
   rw [hb] at HH
   clear h hfs hcat hw hok
   go_enter Tryz.func7, Tryz.ntmps7
   go_wp2_with (first | (go_at_call 20; refine HH.out.mono ?_; rintro e w' ⟨rfl, rfl⟩) | fail)
   exact HBad.out
 | true =>
   obtain ⟨A, rfl, hA⟩ : ∃ A : Nat, i = A ∧ A < n := by
    unfold hasB at hb
    simp at hb
    exact ⟨i.toNat, by omega, by omega⟩
   rw [hb] at HH
   have HErr : Hid (∀ k (hk : k < ws.length) w', (∀ j (h : j < ws.length), j < k → wE us ws[j] = 0) → wE us ws[k] ≠ 0 → Below w.heap.size w w' → ApplyTo w S K n ps bl us x A ws (.returned (.iface 77 (.int .i64 (wE us ws[k])))) w') := fun k hk w' h1 h2 h3 => by
    refine .inl ?_
    rw [hb, if_pos rfl, wsE_bad hk h1 h2]
    exact ⟨h2, rfl, h3⟩
   have HOkk : Hid (∀ w', (∀ j (h : j < ws.length), wE us ws[j] = 0) → Fg w' (grown S w w') (K + ws.length) n ps bl us (applyF A (ws.map (wC us)) x) → Frame S w w' → ByK w w' → ApplyTo w S K n ps bl us x A ws (.returned .nilIface) w') := fun w' h1 h2 h3 h4 => by
    refine .inr ?_
    rw [hb, if_pos rfl, wsE_ok h1, Int.toNat_natCast]
    exact ⟨rfl, rfl, h2, h3, h4⟩
   generalize ApplyTo w S K n ps bl us x A ws = Q at *
   have HF := Lib.hid h
   have HW := Lib.hid hw
   have HOK := Lib.hid hok
   have HB := Lib.hid (And.intro hfs hcat)
   have HLim := Lib.hid (And.intro hK (And.intro hcm hA))
   obtain ⟨N, hN⟩ : ∃ N, ws.length = N := ⟨_, rfl⟩
   have HN := Lib.hid hN
   rw [hN] at hK ⊢
   clear h hw hok hfs hcat hb hN
   go_enter Tryz.func7, Tryz.ntmps7
   go_wp2_with (first | (go_at_call 20; refine HH.out.mono ?_; rintro e w0 ⟨rfl, rfl⟩) | fail)
   go_loopw [7, 21] (fun cv iv wr => ∃ (k : Nat) (cl : List CgV), k ≤ N ∧ iv = .int .i64 k ∧ Hid (ChsAt us ws w0 k cv cl wr)) (fun _ iv _ => N - (intOf iv).toNat)
   case atStart => exact ⟨0, [], Nat.zero_le _, rfl, ⟨World.ownsRow_nil _ _ _ _, rfl, fun j h => by simp at h, fun j _ h => by omega, Below.refl _ _⟩⟩
   case round =>
    obtain ⟨k, cl, hk, rfl, HC⟩ := hrel
    by_cases hlt : k < N
    · have hkl : k < ws.length := by rw [HN.out]; exact hlt
      obtain ⟨⟨b, o, rfl, y0, y1, y2⟩, hin⟩ := (HW.out.on HC.out.bw) k hkl
      have hkI : (k : Int) < (N : Int) := by omega
      obtain ⟨X, hX⟩ : ∃ X, X = ws[k] := ⟨_, rfl⟩
      have HX := Lib.hid hX
      rw [← hX] at y0 y1 y2 hin
      have hxok := HOK.out X (by rw [hX]; exact List.getElem_mem hkl)
      clear hX
      obtain ⟨xn, xg, xa, xc, vs⟩ := X
      simp only at y0 y1 y2
      obtain ⟨M, hM⟩ : ∃ M, vs.length = M := ⟨_, rfl⟩
      rw [hM] at y2
      obtain ⟨W1, hW1⟩ : ∃ W1, wr.alloc (.cells #[.string xn, .bool xg, .slice xa M xc] 75) = W1 := ⟨_, rfl⟩
      have hb1 : Below wr.heap.size wr W1 := by rw [← hW1]; exact below_alloc _ _
      have hk1 : W1.heap[wr.heap.size]? = some (.cells #[.string xn, .bool xg, .slice xa M xc] 75 (0, 0)) := by rw [← hW1]; exact new_blk _ _
      have z0 : W1.cell? ⟨wr.heap.size, 0, none⟩ = some (.string xn) := cell_of hk1 rfl
      have z1 : W1.cell? ⟨wr.heap.size, 1, none⟩ = some (.bool xg) := cell_of hk1 rfl
      have z2 : W1.cell? ⟨wr.heap.size, 2, none⟩ = some (.slice xa M xc) := cell_of hk1 rfl
      have hbw1 := below_step HC.out.bw hb1
      have HCh : Hid (Calls Tryz.prog 21 #[.pointer (some ⟨ps, 0, none⟩), .agg #[.string xn, .bool xg, .slice xa M xc]] W1 (ChgTo W1 us ⟨xn, xg, xa, xc, vs⟩)) := by
       have := fchange_ (HB.out.1.on hbw1) (HB.out.2.on hbw1) HF.out.cl (x := ⟨xn, xg, xa, xc, vs⟩) (show Rw.ValsIn W1 xa vs from Rw.ValsIn.on (show Rw.ValsIn wr xa vs from hin) hb1) hxok
       simp only [WV.val, hM] at this
       exact this
      have HB1 := Lib.hid hb1
      clear hin hxok hb1 hk1 hbw1
      go_wp2_with fail
      refine HCh.out.mono ?_
      rintro e w2 ⟨t, ck, cr, cg, rfl, hq, hb2⟩
      have HB2 := Lib.hid (below_step HB1.out hb2)
      have HQ2 := Lib.hid hq
      clear hq hb2 HCh y0 y1 y2 z0 z1 z2 hW1
      obtain ⟨ra, rn, rc⟩ := cr
      simp only at HQ2 ⊢
      by_cases hE : wE us ⟨xn, xg, xa, xc, vs⟩ = 0
      · rw [hE, errV_zero]
        rw [hE] at HQ2
        obtain ⟨e1, e2, e3, e4⟩ := HQ2.out rfl
        obtain ⟨W4, hW4⟩ : ∃ W4, (w2.alloc (.cells #[.int .i64 t, .string ck, .slice ra rn rc, .bool cg] 81)).alloc (.cells #[.int .i64 t, .string ck, .slice ra rn rc, .bool cg] 81) = W4 := ⟨_, rfl⟩
        have hb4 : Below w2.heap.size w2 W4 := by rw [← hW4]; exact below_step (below_alloc _ _) (below_alloc _ _)
        have hs4 : (w2.alloc (.cells #[.int .i64 t, .string ck, .slice ra rn rc, .bool cg] 81)).heap.size = w2.heap.size + 1 := by simp [go_sem]
        have hk4 : W4.heap[w2.heap.size + 1]? = some (.cells #[.int .i64 t, .string ck, .slice ra rn rc, .bool cg] 81 (0, 0)) := by
         have := new_blk (w2.alloc (.cells #[.int .i64 t, .string ck, .slice ra rn rc, .bool cg] 81)) (.cells #[.int .i64 t, .string ck, .slice ra rn rc, .bool cg] 81)
         rw [hW4, hs4] at this
         exact this
        have hbw := below_step HB2.out hb4
        have hbw0 := below_step HC.out.bw hbw
        obtain ⟨a5, n5, c5, w5, hap, hrow5, hg5⟩ := app_cg (x := ⟨t, ck, ⟨ra, rn, rc⟩, cg⟩) (rowC_on HC.out.row hbw) hk4 (by rw [HC.out.len]; omega) hbw0.size
        have hb5 : Below w0.heap.size w0 w5 := hbw0.grown hg5 hbw0.size fun q hq => (World.ownsRow.lt (rowC_on HC.out.row hbw) q hq).1
        have hrow : ∀ r s, RowAt W4 r s → RowAt w5 r s := fun r s hr => hr.keep fun g hg => hg5.block g (by obtain ⟨cur, hc⟩ := hr.blk hg; exact blk_lt hc) fun e => by
         obtain ⟨cur, hc⟩ := hr.blk hg
         obtain ⟨cur2, hc2⟩ := row_block (rowC_on HC.out.row hbw) e.symm
         exact kind_ne hc hc2 (by decide) rfl
        have HNx : Hid (ChsAt us ws w0 (k + 1) (.slice a5 n5 c5) (cl ++ [⟨t, ck, ⟨ra, rn, rc⟩, cg⟩]) w5) := by
         refine ⟨hrow5, by rw [List.length_append, HC.out.len]; rfl, fun j hj hj2 => ?_, fun j hj hjk => ?_, hb5⟩
         · by_cases hjk : j < cl.length
           · rw [List.getElem_append_left hjk]
             obtain ⟨g1, g2, g3, g4⟩ := HC.out.each j hjk hj2
             exact ⟨g1, g2, g3, hrow _ _ (g4.on hbw)⟩
           · have hjl : j = cl.length := by rw [List.length_append] at hj; simp at hj; omega
             subst hjl
             rw [List.getElem_append_right (Nat.le_refl _)]
             simp only [Nat.sub_self, List.getElem_cons_zero]
             have hkk : cl.length = k := HC.out.len
             have hws : ws[cl.length] = ⟨xn, xg, xa, xc, vs⟩ := by rw [HX.out]; simp only [hkk]
             rw [hws]
             exact ⟨e1, e2, e3, hrow _ _ (e4.on hb4)⟩
         · by_cases hjk2 : j < k
           · exact HC.out.good j hj hjk2
           · have hjk3 : j = k := by omega
             subst hjk3
             rw [← HX.out]; exact hE
        clear hb4 hk4 hbw hbw0 hrow5 hg5 hb5 hrow e1 e2 e3 e4 HQ2 HB2
        go_wp2_with (first
         | (refine Tb.wpList_exec rfl (exec_append rfl rfl rfl hap) ?_; clear hap)
         | fail)
        go_roundw
        case rel => exact ⟨k + 1, _, by omega, by go_num, HNx.out⟩
        case measure => simp [intOf]; omega
      · rw [errV_ne hE]
        have HR : Hid (∀ w', Below w2.heap.size w2 w' → Q (.returned (.iface 77 (.int .i64 (wE us ⟨xn, xg, xa, xc, vs⟩)))) w') := fun w' hw' => by
         have := HErr.out k hkl w' HC.out.good (by rw [← HX.out]; exact hE) (below_step HC.out.bw (below_step HB2.out hw'))
         rw [← HX.out] at this
         exact this
        have HR2 := Lib.hid (HR.out _ (below_alloc w2 (.cells #[.int .i64 t, .string ck, .slice ra rn rc, .bool cg] 81)))
        generalize wE us ⟨xn, xg, xa, xc, vs⟩ = E at *
        clear HQ2 HB2 HR hE
        go_wp2_with fail
        exact HR2.out
    · obtain rfl : k = N := by omega
      have HF1 := Lib.hid (HF.out.on HC.out.bw)
      obtain ⟨gl2, cl2, ⟨BC2, m2, hfs2⟩, hle2, hc2, hz2, hbump⟩ := HF1.out.bump HLim.out.2.2
      obtain ⟨p0, _, _⟩ := hfs2.cells
      have hA2 : (A : Int) < (n : Int) := by omega
      have hcmA := hcm A
      obtain ⟨va, vc, rfl, hv1, hv2, hv3, _⟩ := row_shape HC.out.row
      have HLen := Lib.hid HC.out.len
      rw [HC.out.len]
      obtain ⟨wb, hwb⟩ : ∃ wb, wb = wr.setCell ⟨gl2, A * 3 + 1, none⟩ (.int .i64 ((x.cm A : Int) + 1)) := ⟨_, rfl⟩
      have HBu := Lib.hid (hbump wb hwb)
      clear hbump hfs2
      obtain ⟨cs, hcs⟩ : ∃ cs, cs = ws.map (wC us) := ⟨_, rfl⟩
      have hcl : cs.length = k := by rw [hcs, List.length_map, HN.out]
      have HCs : Hid (∀ j (hj : j < k), ∃ (h1 : j < cl.length) (h2 : j < ws.length) (h3 : j < cs.length), cs[j] = wC us ws[j] ∧ cl[j].t = cs[j].t ∧ cl[j].k = cs[j].k ∧ cl[j].gn = cs[j].gn ∧ RowAt wb cl[j].r cs[j].tx ∧ cs[j].t < us.length ∧ (cs[j].gn = false → Qr us cs[j].t cs[j].k cs[j].tx)) := fun j hj => by
       have h1 : j < cl.length := by rw [HLen.out]; exact hj
       have h2 : j < ws.length := by rw [HN.out]; exact hj
       have h3 : j < cs.length := by rw [hcl]; exact hj
       have e : cs[j] = wC us ws[j] := by simp only [hcs, List.getElem_map]
       obtain ⟨g1, g2, g3, g4⟩ := HC.out.each j h1 h2
       obtain ⟨q1, q2⟩ := wC_q (HC.out.good j h2 hj) (HOK.out _ (List.getElem_mem h2))
       refine ⟨h1, h2, h3, e, ?_, ?_, ?_, ?_, ?_, ?_⟩ <;> rw [e]
       · exact g1
       · exact g2
       · exact g3
       · exact g4.byK HBu.out.2.2
       · exact q1
       · exact q2
      have HRw : Hid (∀ wq, Frame S wb wq → ∀ j (hj : j < cl.length), ∃ g, va = some ⟨g, 0, none⟩ ∧ wq.cell? ⟨g, j * 4, none⟩ = some (.int .i64 cl[j].t) ∧ wq.cell? ⟨g, j * 4 + 1, none⟩ = some (.string cl[j].k) ∧ wq.cell? ⟨g, j * 4 + 2, none⟩ = some (.slice cl[j].r.a cl[j].r.n cl[j].r.c) ∧ wq.cell? ⟨g, j * 4 + 3, none⟩ = some (.bool cl[j].gn)) := fun wq hfq j hj => by
       rcases HC.out.row.2 with ⟨_, q⟩ | ⟨g, cap, cur, e, q1, q2, q3, q4, q5, q6⟩
       · omega
       · simp only [Value.slice.injEq] at e
         obtain ⟨rfl, _, _⟩ := e
         obtain ⟨z0, z1, z2, z3⟩ := cgCs_at cl j hj
         have hgS : ¬ S g := fun hS => by have := HF.out.bd g hS; omega
         have hblk : wq.heap[g]? = some (.cells cur 81 (0, 0)) := by
          rw [hfq.block g (Nat.lt_of_lt_of_le (blk_lt q2) HBu.out.2.1.size) hgS, HBu.out.2.1.block g (blk_lt q2) hgS]
          exact q2
         have cell : ∀ o v, (cgCs cl)[o]? = some v → cur[o]? = some v := fun o v hv => by
          have hlt : o < cl.length * 4 := by
           rw [← cgCs_len]
           exact (List.getElem?_eq_some_iff.1 hv).1
          rw [← q6, List.getElem?_take_of_lt hlt] at hv
          simpa using hv
         exact ⟨g, rfl, cell_of hblk (cell _ _ z0), cell_of hblk (cell _ _ z1), cell_of hblk (cell _ _ z2), cell_of hblk (cell _ _ z3)⟩
      have HD0 : Hid (DoneAt S K n ps bl us x A cs wb 0 wb) := ⟨HBu.out.1.widen (fun q hq => .inl hq) (fun q hq => hq.elim (HBu.out.1.bd q) fun z => z.2), Frame.refl _ _, fun _ _ _ => rfl⟩
      have HEnd : Hid (∀ w', DoneAt S K n ps bl us x A cs wb k w' → Q (.returned .nilIface) w') := fun w' hd => by
       have hlow : Frame S w0 w' := by
        have f1 : Frame S w0 wr := (Frame.below (Ft := S) HC.out.bw)
        exact (f1.trans HBu.out.2.1 fun q _ hq => hq).trans hd.fr fun q _ hq => hq
       refine HOkk.out w' (fun j hj => HC.out.good j hj (by rw [← HN.out]; exact hj)) ?_ hlow (((ByK.below HC.out.bw).trans HBu.out.2.2).trans hd.by')
       have := hd.fg
       rw [show cs.take k = cs by rw [← hcl, List.take_length], hcs] at this
       rw [HN.out]
       refine this.widen (fun q hq => ?_) fun q hq => ?_
       · rcases hq with hq | hq
         · exact .inl hq
         · exact .inr ⟨Nat.le_trans (Nat.le_trans HC.out.bw.size HBu.out.2.1.size) hq.1, hq.2⟩
       · rcases hq with hq | hq
         · exact Nat.lt_of_lt_of_le (HF.out.bd q hq) hlow.size
         · exact hq.2
      have hcmb : ∀ j, 1 ≤ (putsF A (cs.take j) (bumpF A x)).cm A := fun j => by rw [putsF_cm]; simp [bumpF]
      have HCmb := Lib.hid (And.intro hcmb (And.intro hK hA))
      clear hcs hcl HBu HC HF1 hv1 hv2 hv3
      go_upto_region 13 with fail
      rw [← hwb]
      clear hwb p0 hc2 hz2 hA2
      go_wp2_with fail
      go_loopw [52] (fun iv wq => ∃ j : Nat, j ≤ k ∧ iv = .int .i64 j ∧ Hid (DoneAt S K n ps bl us x A cs wb j wq)) (fun iv _ => k - (intOf iv).toNat)
      case atStart => exact ⟨0, Nat.zero_le _, rfl, HD0.out⟩
      case round =>
       obtain ⟨j, hj, rfl, HDn⟩ := hrel
       by_cases hlt : j < k
       · obtain ⟨h1, h2, h3, e, g1, g2, g3, g4, q1, q2⟩ := HCs.out j hlt
         obtain ⟨g, hga, y0, y1, y2, y3⟩ := HRw.out wr HDn.out.fr j h1
         subst hga
         have hjI : (j : Int) < (k : Int) := by omega
         obtain ⟨C, hC⟩ : ∃ C, C = cs[j] := ⟨_, rfl⟩
         have HC := Lib.hid hC
         rw [← hC] at g1 g2 g3 g4 q1 q2
         rw [g1] at y0; rw [g2] at y1; rw [g3] at y3
         generalize cl[j].r = r at *
         clear hC g1 g2 g3 e
         obtain ⟨Wa, hWa⟩ : ∃ Wa, wr.alloc (.cells #[.int .i64 C.t, .string C.k, .slice r.a r.n r.c, .bool C.gn] 81) = Wa := ⟨_, rfl⟩
         have hba : Below wr.heap.size wr Wa := by rw [← hWa]; exact below_alloc _ _
         have hCa : CgB Wa wr.heap.size C.t C.k r C.gn := by rw [← hWa]; exact new_blk _ _
         obtain ⟨x0, x1, x2, x3, _⟩ := hCa.cells
         have HBa := Lib.hid hba
         have HPut := Lib.hid (fput_ (HDn.out.fg.on hba) HCmb.out.2.2 C q1 (r := r) (fun _ => (g4.byK HDn.out.by').on hba) q2 (by have := HCmb.out.2.1; omega) (HCmb.out.1 j))
         have HNx : Hid (∀ w', Fg w' (grown (grown S wb wr) Wa w') (K + j + 1) n ps bl us (putF A C (putsF A (cs.take j) (bumpF A x))) → Frame (grown S wb wr) Wa w' → ByK Wa w' → DoneAt S K n ps bl us x A cs wb (j + 1) w') := fun w' f1 f2 f3 => by
          have hsz : wb.heap.size ≤ Wa.heap.size := Nat.le_trans HDn.out.fr.size hba.size
          have hfr : Frame S wb w' := by
           refine ⟨f2.os.trans (hba.os.trans HDn.out.fr.os), f2.tape.trans (hba.tape.trans HDn.out.fr.tape), f2.output.trans (hba.output.trans HDn.out.fr.output), Nat.le_trans hsz f2.size, fun q hq hn => ?_⟩
           have hq2 := Nat.lt_of_lt_of_le hq HDn.out.fr.size
           rw [f2.block q (Nat.lt_of_lt_of_le hq hsz) (fun z => z.elim hn fun z => by omega), hba.block q hq2, HDn.out.fr.block q hq hn]
          refine ⟨?_, hfr, (HDn.out.by'.trans (ByK.below hba)).trans f3⟩
          rw [List.take_succ_eq_append_getElem h3, putsF_snoc, ← HC.out, ← Nat.add_assoc]
          refine f1.widen (fun q hq => ?_) fun q hq => ?_
          · rcases hq with (hq | hq) | hq
            · exact .inl hq
            · exact .inr ⟨hq.1, Nat.lt_of_lt_of_le hq.2 (Nat.le_trans hba.size f2.size)⟩
            · exact .inr ⟨Nat.le_trans hsz hq.1, hq.2⟩
          · rcases hq with hq | hq
            · exact f1.bd q (.inl (.inl hq))
            · exact hq.2
         clear hba hCa HEnd HCs HRw HDn g4 q1 q2
         go_wp2_with (first | (go_at_call 22; refine HPut.out.mono ?_; rintro e w3 ⟨rfl, f1, f2, f3⟩; have HD3 := Lib.hid (HNx.out w3 f1 f2 f3); clear f1 f2 f3) | fail)
         go_roundw
         case rel => exact ⟨j + 1, by omega, by go_num, HD3.out⟩
         case measure => simp [intOf]; omega
       · obtain rfl : j = k := by omega
         have HE := Lib.hid (HEnd.out wr HDn.out)
         clear HEnd HDn HCs HRw
         go_wp2_with fail
         exact HE.out
end Go.Proofs.YtalmanfjiblhcaaGreat
