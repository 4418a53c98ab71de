/- What the walk of the law's step takes. -/
import Derived.Test.YtdcanhcejhaccaaDoorRT
import Derived.Test.YtdcanhcejhaccaaDoorDPend
import Derived.Test.YtdcanhcejhaccaaDoorDClone
import Derived.Test.YtdcanhcejhaccaaDoorArmedWalk
import Derived.Test.YtdcanhcejhaccaaDoorDActs
namespace Go.Proofs.YtdcanhcejhaccaaDoor
open Go.RowKit Go.Sort Go.Maps

/-- A row of numbers of one's own, more of them laid behind. -/
theorem info3 : (Tryd.prog.info? 3).map (fun i => (i.zero, i.size, i.bytes)) = some (some (.int .i64 0), 1, 8) := by kernel_rfl
theorem wpList_append_ints (w : World) {ops : Array Oper} {rest : List Oper} {o : Oper} {act : Act} {Q : Exit → Act → World → Prop} (hgd : o.guard = none) (s x : Operand)
    (ho : o.op = .call { callee := .builtin .append, args := #[s, x], argTypes := #[40, 40] }) (hs : act.eval s = .slice none 0 0)
    (a : Option Addr) (zs : List Int) (m c' : Nat) (hx : act.eval x = .slice a m c') (hm : zs.length = m) (hnil : a = none → c' = 0) (hin : IntsIn w a zs) (hbytes : zs.length * 8 ≤ 140737488355328)
    (hK : ∀ a' c2 w', IntsIn w' a' zs → (∀ b o, a' = some ⟨b, o, none⟩ → w.heap.size ≤ b) → Below w.heap.size w w' → wpList Tryd.prog ops Q rest (act.put o.dst (.slice a' m c2)) w') : wpList Tryd.prog ops Q (o :: rest) act w := by
  obtain ⟨i0, hi, hz0, hz1, hz2⟩ := info_parts info3
  subst hm
  refine wpList_plain hgd fun K hKK => ?_
  have hown := World.ownsRow_nil w w.heap.size 3 1
  cases a with
  | none =>
    have hz : zs = [] := by
      cases zs with
      | nil => rfl
      | cons z r => obtain ⟨b, o, e, _⟩ := hin 0 (by simp); cases e
    subst hz
    obtain rfl := hnil rfl
    have hrun := run_append_owned_none (P := Tryd.prog) w w.heap.size 40 o.type 3 i0 1 Tryd.underlying40 hi _ _ _ hown
    unfold Oper.wp
    simp only [List.length_nil] at hx
    simp [execOp, ho, resolve, invoke, builtin, hs, hx, hrun, Result.andThen]
    exact hKK _ _ (hK none 0 w (intsIn_nil _ _) (fun b o e => by cases e) (Below.refl _ _))
  | some ad =>
    have hnews : ∀ j u, (zs.map (Value.int .i64))[j]? = some u → w.cell? (ad.add j) = some u := by
      intro j u hj
      have hl : j < zs.length := by
        rcases Nat.lt_or_ge j zs.length with h | h
        · exact h
        · rw [List.getElem?_eq_none (by simpa using h)] at hj; cases hj
      obtain ⟨b, o, e, h1⟩ := hin j hl
      cases e
      rw [Addr.add_lit, h1]
      simp [List.getElem?_map, List.getElem?_eq_getElem hl] at hj
      rw [hj]
    obtain ⟨v', w', hr, h2, h3, _⟩ := run_append_own_at (P := Tryd.prog) w w.heap.size 40 o.type 3 i0 (.int .i64 0) 1 8 Tryd.underlying40 hi hz0 hz1 hz2 rfl (by decide) _ 0 [] hown ad zs.length c' (zs.map (Value.int .i64)) (by simp) hnews (by intro u hu; obtain ⟨z, _, rfl⟩ := List.mem_map.1 hu; rfl) (by unfold maxLen; omega) (by omega) (Nat.le_refl _)
    unfold Oper.wp execOp
    simp only [ho, resolve, invoke, builtin, Sem.run_bind, Sem.run_pure, Result.andThen_ok, List.map_toArray, List.map_cons, List.map_nil, hs, hx, hr]
    refine hKK _ _ ?_
    have hB : Below w.heap.size w w' := (Below.refl _ w).grown h3 (Nat.le_refl _) (fun k hk => by simp [Value.ownBlock] at hk)
    rw [Nat.zero_add, List.nil_append] at h2
    rcases h2.2 with ⟨rfl, e⟩ | ⟨g, cap, cur, rfl, q1, q2, _, _, q5, q6⟩
    · have hz : zs = [] := List.eq_nil_of_length_eq_zero e
      subst hz
      exact hK none 0 w' (intsIn_nil _ _) (fun b o e => by cases e) hB
    · refine hK (some ⟨g, 0, none⟩) cap w' (fun i hi => ⟨g, 0, rfl, ?_⟩) (fun b o e => by cases e; exact q1) hB
      have := World.ownsRow.cellAt h2 i (by omega)
      rw [Nat.zero_add, this]
      simp [List.getElem?_map, List.getElem?_eq_getElem hi]
theorem mod_at2 (q : Int) (hq : 0 < q) (hq2 : q ≤ 1000) (k : Int) : ∃ m : Nat, wrap64 ((IntKind.u64.wrap k).tmod q) = (m : Int) ∧ IntKind.i64.wrap ((IntKind.u64.wrap k).tmod q) = (m : Int) ∧ (m : Int) < q := by
  obtain ⟨m, h1, h2⟩ := mod_at q hq hq2 k
  refine ⟨m, h1, ?_, h2⟩
  rw [← h1]
  simp [IntKind.wrap, IntKind.bits, IntKind.signed, wrap64]
  generalize (k % 18446744073709551616).tmod q = r
  split <;> omega
/-- Something done, as a value. -/
def actV (A : ActV) : Value := .agg #[.int .i64 A.kind, .int .i64 A.region, .int .i64 A.at', .slice A.da A.dxs.length A.dc, .slice A.ca A.cs.length A.cc]
/-- What a step begins with. -/
structure StepIn (w0 w : World) (p aa bb : Nat) (d : Dev) (K : Nat) (x : RD) (ra : Option Addr) (rc : Nat) (A : ActV) : Prop where
  dev : DevIn w p aa bb d K
  lst : LstS w ra rc x.l
  tie : Tie d x
  len : x.l.length ≤ 1000
  kl : K < 1000000
  bw : Below w0.heap.size w0 w
  lo : w0.heap.size ≤ p ∧ w0.heap.size ≤ aa ∧ w0.heap.size ≤ bb
  err : ErrType w0
  dat0 : BytesIn w0 A.da A.dxs
  dn : A.da = none → A.dc = 0
  by8 : ∀ y ∈ A.dxs, y < 256
  dl : A.dxs.length ≤ 140737488351232
  ints0 : IntsIn w0 A.ca A.cs
  cn : A.ca = none → A.cc = 0
  cl : A.cs.length * 8 ≤ 140737488351232
theorem StepIn.dat {w0 w V : World} {p aa bb : Nat} {d : Dev} {K : Nat} {x : RD} {ra : Option Addr} {rc : Nat} {A : ActV} (h : StepIn w0 w p aa bb d K x ra rc A) (hb : Below w.heap.size w V) : BytesIn V A.da A.dxs := (h.dat0.on h.bw).on hb
/-- What it leaves. -/
def StepTo (w : World) (p aa bb K : Nat) (d : Dev) (x : RD) (e : Ending) (w' : World) : Prop :=
  ∃ a' c', e = .returned (.tuple #[rdV x a' c', .bool true]) ∧ DevIn w' p aa bb d (K + 1) ∧ LstS w' a' c' x.l ∧ Fd p aa bb w w'
theorem below3w (w : World) (o o' o'' : Obj) : Below w.heap.size w (((w.alloc o).alloc o').alloc o'') := below_step (below_two w o o') (below_alloc _ _)
theorem heap3w (w : World) (o o' o'' : Obj) : (((w.alloc o).alloc o').alloc o'').heap[w.heap.size]? = some o ∧ (((w.alloc o).alloc o').alloc o'').heap[w.heap.size + 1]? = some o' ∧ (((w.alloc o).alloc o').alloc o'').heap[w.heap.size + 1 + 1]? = some o'' := by
  refine ⟨alloc_old (heap_two w o o').2, alloc_old (heap_two w o o').1, ?_⟩
  have := alloc_at ((w.alloc o).alloc o') o''
  simpa using this
theorem act_cells {w : World} {b : Nat} {kd g at' : Int} {v v' : Value} {t : TypeId} {z : Nat × Nat} (h : w.heap[b]? = some (.cells #[.int .i64 kd, .int .i64 g, .int .i64 at', v, v'] t z)) :
    w.cell? ⟨b, 0, none⟩ = some (.int .i64 kd) ∧ w.cell? ⟨b, 1, none⟩ = some (.int .i64 g) ∧ w.cell? ⟨b, 2, none⟩ = some (.int .i64 at') ∧ w.cell? ⟨b, 3, none⟩ = some v ∧ w.cell? ⟨b, 4, none⟩ = some v' :=
  ⟨cell_of h rfl, cell_of h rfl, cell_of h rfl, cell_of h rfl, cell_of h rfl⟩
/-- Bytes that one may write over. -/
def MineIn (w : World) (N : Nat) (a : Option Addr) (n : Nat) : Prop := (a = none ∧ n = 0) ∨ ∃ g cs, a = some ⟨g, 0, none⟩ ∧ N ≤ g ∧ w.heap[g]? = some (.cells cs 5 (0, 0)) ∧ n ≤ cs.size
theorem mine_of {w : World} {N : Nat} {v : Value} {xs : List Nat} (h : Own w N v xs) : ∃ a c, v = .slice a xs.length c ∧ MineIn w N a xs.length ∧ BytesIn w a xs ∧ (a = none → c = 0) := by
  obtain ⟨a, c, e, hb, hn⟩ := h.bytes
  refine ⟨a, c, e, ?_, hb, hn⟩
  rcases h.2 with ⟨e', h0⟩ | ⟨g, cap, cur, e', h1, h2, h3, h4, h5, h6⟩
  · rw [e'] at e
    simp only [Value.slice.injEq] at e
    exact .inl ⟨e.1.symm, h0⟩
  · rw [e'] at e
    simp only [Value.slice.injEq] at e
    exact .inr ⟨g, cur, e.1.symm, h1, h2, by omega⟩
/-- The device of the document's stored into the block that is handed back. -/
theorem step_fin {w V : World} {p aa bb K K' N : Nat} {d : Dev} {l : List RS} {a : Option Addr} {c : Nat} {old cs : Array Value} (hD : DevIn V p aa bb d K') (hl : LstS V a c l) (hf : Fd p aa bb w V) (hN : w.heap.size ≤ N) (hlt : p < w.heap.size ∧ aa < w.heap.size ∧ bb < w.heap.size) (hg : V.heap[N]? = some (.cells old 32 (0, 0))) (hk : K' ≤ K + 1) (hK : K < 1000000) :
    (V.setRow N cs).heap[N]? = some (.cells cs 32 (0, 0)) ∧ DevIn (V.setRow N cs) p aa bb d (K + 1) ∧ LstS (V.setRow N cs) a c l ∧ Fd p aa bb w (V.setRow N cs) := by
  refine ⟨setRow_heap V N _ cs 32 (0, 0) hg, (hD.mono hk (by omega)).keep (setRow_other V N _ cs (by omega)) (setRow_other V N _ cs (by omega)) (setRow_other V N _ cs (by omega)), hl.stay fun k q z hk => setRow_other V N k cs (fun e => ?_), hf.os, hf.tape, hf.output, by simpa [World.setRow] using hf.size, fun k hk h1 h2 h3 => (setRow_other V N k cs (by omega)).trans (hf.block k hk h1 h2 h3)⟩
  rw [e, hg] at hk
  simp only [Option.some.injEq, Obj.cells.injEq] at hk
  exact absurd hk.2.1 (by decide)
theorem six_one (r s lf : Int) (a : Option Addr) (n c : Nat) (cr ar : Bool) : (#[.int .i64 r, .int .i64 s, .slice a n c, .bool cr, .bool ar, .int .i64 lf] : Array Value).all (·.oneCell') = true := by simp [Value.oneCell']
/-- Bytes written over. -/
structure Wiped (N : Nat) (ma : Option Addr) (n : Nat) (V wr : World) : Prop where
  mine : MineIn wr N ma n
  os : wr.os = V.os
  tape : wr.tape = V.tape
  output : wr.output = V.output
  size : V.heap.size ≤ wr.heap.size
  block : ∀ k, k < V.heap.size → (∀ g, ma = some ⟨g, 0, none⟩ → k ≠ g) → wr.heap[k]? = V.heap[k]?
theorem Wiped.start {N : Nat} {ma : Option Addr} {n : Nat} {V : World} (h : MineIn V N ma n) : Wiped N ma n V V := ⟨h, rfl, rfl, rfl, Nat.le_refl _, fun _ _ _ => rfl⟩
theorem Wiped.at {N : Nat} {ma : Option Addr} {n i : Nat} {V wr : World} (h : Wiped N ma n V wr) (hi : i < n) : ∃ g, ma = some ⟨g, 0, none⟩ ∧ N ≤ g ∧ (∃ u, wr.cell? ⟨g, i, none⟩ = some u) ∧ wr.frozen? ⟨g, i, none⟩ = false := by
  rcases h.mine with ⟨_, h0⟩ | ⟨g, cs, e, h1, h2, h3⟩
  · omega
  · exact ⟨g, e, h1, ⟨_, cell_of h2 (Array.getElem?_eq_getElem (by omega))⟩, frozen_of h2⟩
theorem Wiped.step {N g : Nat} {n i : Nat} {V wr : World} (h : Wiped N (some ⟨g, 0, none⟩) n V wr) (u : Value) : Wiped N (some ⟨g, 0, none⟩) n V (wr.setCell ⟨g, i, none⟩ u) := by
  refine ⟨?_, h.os, h.tape, h.output, by simpa [World.setCell] using h.size, fun k hk hne => (heap_far u (hne g rfl)).trans (h.block k hk hne)⟩
  rcases h.mine with ⟨e, _⟩ | ⟨g', cs, e, h1, h2, h3⟩
  · cases e
  · cases e
    exact .inr ⟨g, _, rfl, h1, heap_set u h2, by simpa using h3⟩
theorem Wiped.old {N : Nat} {ma : Option Addr} {n : Nat} {V wr : World} (h : Wiped N ma n V wr) {k : Nat} (hk : k < V.heap.size) (hN : k < N) : wr.heap[k]? = V.heap[k]? :=
  h.block k hk fun g e hne => by
    rcases h.mine with ⟨e', _⟩ | ⟨g', cs, e', h1, _, _⟩
    · rw [e'] at e; cases e
    · rw [e'] at e; cases e; omega
theorem Wiped.typed {N : Nat} {ma : Option Addr} {n : Nat} {V wr : World} (h : Wiped N ma n V wr) (h0 : MineIn V N ma n) {k : Nat} {q : Array Value} {t : TypeId} {z : Nat × Nat} (hk : V.heap[k]? = some (.cells q t z)) (ht : t ≠ 5) : wr.heap[k]? = V.heap[k]? :=
  h.block k (blk_lt hk) fun g e hne => by
    rcases h0 with ⟨e', _⟩ | ⟨g', cs, e', h1, h2, _⟩
    · rw [e'] at e; cases e
    · rw [e'] at e; cases e; rw [hne, h2] at hk; simp only [Option.some.injEq, Obj.cells.injEq] at hk; exact ht hk.2.1.symm
theorem Wiped.fd {N : Nat} {ma : Option Addr} {n p aa bb : Nat} {w V wr : World} (h : Wiped N ma n V wr) (hf : Fd p aa bb w V) (hN : w.heap.size ≤ N) : Fd p aa bb w wr :=
  ⟨h.os.trans hf.os, h.tape.trans hf.tape, h.output.trans hf.output, Nat.le_trans hf.size h.size, fun k hk h1 h2 h3 => (h.old (Nat.lt_of_lt_of_le hk hf.size) (by omega)).trans (hf.block k hk h1 h2 h3)⟩
theorem Wiped.dev {N : Nat} {ma : Option Addr} {n p aa bb K : Nat} {d : Dev} {V wr : World} (h : Wiped N ma n V wr) (hD : DevIn V p aa bb d K) (hN : p < N ∧ aa < N ∧ bb < N) : DevIn wr p aa bb d K :=
  hD.keep (h.old hD.lts.1 hN.1) (h.old hD.lts.2.1 hN.2.1) (h.old hD.lts.2.2 hN.2.2)
theorem Wiped.lst {N : Nat} {ma : Option Addr} {n c : Nat} {a : Option Addr} {l : List RS} {V wr : World} (h : Wiped N ma n V wr) (h0 : MineIn V N ma n) (hl : LstS V a c l) : LstS wr a c l :=
  hl.stay fun _ _ _ hk => h.typed h0 hk (by decide)
theorem MineIn.on {N : Nat} {ma : Option Addr} {n : Nat} {V V' : World} (h : MineIn V N ma n) (hb : Below V.heap.size V V') : MineIn V' N ma n := by
  rcases h with h | ⟨g, cs, e, h1, h2, h3⟩
  · exact .inl h
  · exact .inr ⟨g, cs, e, h1, (hb.block g (blk_lt h2)).trans h2, h3⟩
theorem MineIn.fd {N : Nat} {ma : Option Addr} {n p aa bb : Nat} {V V' : World} (h : MineIn V N ma n) (hf : Fd p aa bb V V') (hN : p < N ∧ aa < N ∧ bb < N) : MineIn V' N ma n := by
  rcases h with h | ⟨g, cs, e, h1, h2, h3⟩
  · exact .inl h
  · exact .inr ⟨g, cs, e, h1, (hf.block g (blk_lt h2) (by omega) (by omega) (by omega)).trans h2, h3⟩
/-- What Read hands back, in one form. -/
theorem read_u {w : World} {p aa bb : Nat} {d : Dev} {K : Nat} (h : DevIn w p aa bb d K) (k : Pl) :
    Calls Tryd.prog 19 #[.pointer (some ⟨p, 0, none⟩), .int .i64 k.1, .int .i64 k.2] w fun e w' => ∃ (ma : Option Addr) (nb cb : Nat) (S : List Nat), e = .returned (.tuple #[.slice ma nb cb, errE (rErr d k)]) ∧ S = (if rErr d k = 0 then readD d k else []) ∧ nb = S.length ∧ MineIn w' w.heap.size ma nb ∧ BytesIn w' ma S ∧ Below w.heap.size w w' :=
  (read_ h k).mono fun e w' hr => by
    rcases hr with ⟨h0, g, he, hg, hh, hb⟩ | ⟨h0, he, hb⟩
    · have hlen : (readD d k).length = 64 := (okC_read h.ok k).1
      exact ⟨some ⟨g, 0, none⟩, 64, 64, readD d k, by rw [he, h0]; rfl, by rw [if_pos h0], hlen.symm, .inr ⟨g, _, rfl, hg, hh, by rw [List.size_toArray, vals_len, hlen]; exact Nat.le_refl _⟩, ct_bytes 5 hh, hb⟩
    · exact ⟨none, 0, 0, [], he, by rw [if_neg h0], rfl, .inl ⟨rfl, rfl⟩, bytesIn_nil _ _, hb⟩
theorem set_new {p aa bb N o : Nat} {w V : World} (h : Fd p aa bb w V) (hN : w.heap.size ≤ N) (v : Value) : Fd p aa bb w (V.setCell ⟨N, o, none⟩ v) :=
  ⟨h.os, h.tape, h.output, by simpa [World.setCell] using h.size, fun k hk h1 h2 h3 => (heap_far v (by omega)).trans (h.block k hk h1 h2 h3)⟩
theorem six_fd {p aa bb N : Nat} {w V : World} (h : Fd p aa bb w V) (hN : w.heap.size ≤ N) (v0 v1 v2 v3 v4 v5 : Value) : Fd p aa bb w ((((((V.setCell ⟨N, 0, none⟩ v0).setCell ⟨N, 1, none⟩ v1).setCell ⟨N, 2, none⟩ v2).setCell ⟨N, 3, none⟩ v3).setCell ⟨N, 4, none⟩ v4).setCell ⟨N, 5, none⟩ v5) :=
  set_new (set_new (set_new (set_new (set_new (set_new h hN _) hN _) hN _) hN _) hN _) hN _
theorem drew_heap (w : World) : w.drew.heap = w.heap := rfl
theorem six_heap_d {w : World} {b : Nat} {x0 x1 x2 x3 x4 x5 : Value} {t : TypeId} (h : w.heap[b]? = some (.cells #[x0, x1, x2, x3, x4, x5] t (0, 0))) (v0 v1 v2 v3 v4 v5 : Value) : (((((((w.setCell ⟨b, 0, none⟩ v0).setCell ⟨b, 1, none⟩ v1).setCell ⟨b, 2, none⟩ v2).setCell ⟨b, 3, none⟩ v3).setCell ⟨b, 4, none⟩ v4).setCell ⟨b, 5, none⟩ v5).drew).heap[b]? = some (.cells #[v0, v1, v2, v3, v4, v5] t (0, 0)) := by rw [drew_heap]; exact six_heap h v0 v1 v2 v3 v4 v5
theorem six_far_d {b k : Nat} (w : World) (hk : k ≠ b) (v0 v1 v2 v3 v4 v5 : Value) : (((((((w.setCell ⟨b, 0, none⟩ v0).setCell ⟨b, 1, none⟩ v1).setCell ⟨b, 2, none⟩ v2).setCell ⟨b, 3, none⟩ v3).setCell ⟨b, 4, none⟩ v4).setCell ⟨b, 5, none⟩ v5).drew).heap[k]? = w.heap[k]? := by rw [drew_heap]; exact six_far w hk v0 v1 v2 v3 v4 v5
theorem six_fd_d {p aa bb b : Nat} {w0 w : World} (h : Fd p aa bb w0 w) (hN : w0.heap.size ≤ b) (v0 v1 v2 v3 v4 v5 : Value) : Fd p aa bb w0 (((((((w.setCell ⟨b, 0, none⟩ v0).setCell ⟨b, 1, none⟩ v1).setCell ⟨b, 2, none⟩ v2).setCell ⟨b, 3, none⟩ v3).setCell ⟨b, 4, none⟩ v4).setCell ⟨b, 5, none⟩ v5).drew) := (six_fd h hN v0 v1 v2 v3 v4 v5).trans (below_fd (below_drew _) p aa bb)
end Go.Proofs.YtdcanhcejhaccaaDoor
