/- What the walk of the law's step takes. -/
import Derived.Test.YthaihallfjjnpaaGreatDoorQ6
import Derived.Test.YthaihallfjjnpaaGreatDoorDAs
import Derived.Test.YthaihallfjjnpaaGreatDoorTActs
namespace Go.Proofs.YthaihallfjjnpaaGreatDoor
open Go.RowKit Go.Sort Go.Maps

theorem num_ (n : Nat) (w : World) (hg : ErrType w) : Calls Tryz.prog 11 #[errV n] w fun e w' => e = .returned (.int .i64 n) ∧ Below w.heap.size w w' := by
  unfold errV
  by_cases h : n = 0
  · subst h; rw [if_pos rfl]; exact num11_nil w
  · rw [if_neg h]; exact num11 n w hg
theorem mod_at (q : Int) (hq : 0 < q) (hq2 : q ≤ 1000) (k : Int) : ∃ m : Nat, wrap64 ((IntKind.u64.wrap k).tmod q) = (m : Int) ∧ (m : Int) < q := by
  have h0 : 0 ≤ IntKind.u64.wrap k := by simp [IntKind.wrap, IntKind.bits, IntKind.signed]; omega
  generalize IntKind.u64.wrap k = m at *
  rw [Int.tmod_eq_emod_of_nonneg h0]
  have h1 := Int.emod_nonneg m (show q ≠ 0 by omega)
  have h2 := Int.emod_lt_of_pos m hq
  generalize m % q = r at *
  refine ⟨r.toNat, ?_, by omega⟩
  have : wrap64 r = r := by simp [wrap64]; omega
  rw [this]; omega
theorem info3 : (Tryz.prog.info? 3).map (fun i => (i.zero, i.size, i.bytes)) = some (some (.int .i64 0), 1, 8) := by kernel_rfl
theorem wpList_append_ints (w : World) {ops : Array Oper} {rest : List Oper} {o : Oper} {act : Act} {Q : Exit → Act → World → Prop} (hgd : o.guard = none) (s x : Operand)
    (ho : o.op = .call { callee := .builtin .append, args := #[s, x], argTypes := #[38, 38] }) (hs : act.eval s = .slice none 0 0)
    (a : Option Addr) (zs : List Int) (m c' : Nat) (hx : act.eval x = .slice a m c') (hm : zs.length = m) (hnil : a = none → c' = 0) (hin : IntsIn w a zs) (hbytes : zs.length * 8 ≤ 140737488355328)
    (hK : ∀ a' c2 w', IntsIn w' a' zs → (∀ b o, a' = some ⟨b, o, none⟩ → w.heap.size ≤ b) → Below w.heap.size w w' → wpList Tryz.prog ops Q rest (act.put o.dst (.slice a' m c2)) w') : wpList Tryz.prog ops Q (o :: rest) act w := by
  obtain ⟨i0, hi, hz0, hz1, hz2⟩ := info_parts info3
  subst hm
  refine wpList_plain hgd fun K hKK => ?_
  have hown := World.ownsRow_nil w w.heap.size 3 1
  cases a with
  | none =>
    have hz : zs = [] := by
      cases zs with
      | nil => rfl
      | cons z r => obtain ⟨b, o, e, _⟩ := hin 0 (by simp); cases e
    subst hz
    obtain rfl := hnil rfl
    have hrun := run_append_owned_none (P := Tryz.prog) w w.heap.size 38 o.type 3 i0 1 Tryz.underlying38 hi _ _ _ hown
    unfold Oper.wp
    simp only [List.length_nil] at hx
    simp [execOp, ho, resolve, invoke, builtin, hs, hx, hrun, Result.andThen]
    exact hKK _ _ (hK none 0 w (intsIn_nil _ _) (fun b o e => by cases e) (Below.refl _ _))
  | some ad =>
    have hnews : ∀ j u, (zs.map (Value.int .i64))[j]? = some u → w.cell? (ad.add j) = some u := by
      intro j u hj
      have hl : j < zs.length := by
        rcases Nat.lt_or_ge j zs.length with h | h
        · exact h
        · rw [List.getElem?_eq_none (by simpa using h)] at hj; cases hj
      obtain ⟨b, o, e, h1⟩ := hin j hl
      cases e
      rw [Addr.add_lit, h1]
      simp [List.getElem?_map, List.getElem?_eq_getElem hl] at hj
      rw [hj]
    obtain ⟨v', w', hr, h2, h3, _⟩ := run_append_own_at (P := Tryz.prog) w w.heap.size 38 o.type 3 i0 (.int .i64 0) 1 8 Tryz.underlying38 hi hz0 hz1 hz2 rfl (by decide) _ 0 [] hown ad zs.length c' (zs.map (Value.int .i64)) (by simp) hnews (by intro u hu; obtain ⟨z, _, rfl⟩ := List.mem_map.1 hu; rfl) (by unfold maxLen; omega) (by omega) (Nat.le_refl _)
    unfold Oper.wp execOp
    simp only [ho, resolve, invoke, builtin, Sem.run_bind, Sem.run_pure, Result.andThen_ok, List.map_toArray, List.map_cons, List.map_nil, hs, hx, hr]
    refine hKK _ _ ?_
    have hB : Below w.heap.size w w' := (Below.refl _ w).grown h3 (Nat.le_refl _) (fun k hk => by simp [Value.ownBlock] at hk)
    rw [Nat.zero_add, List.nil_append] at h2
    rcases h2.2 with ⟨rfl, e⟩ | ⟨g, cap, cur, rfl, q1, q2, _, _, q5, q6⟩
    · have hz : zs = [] := List.eq_nil_of_length_eq_zero e
      subst hz
      exact hK none 0 w' (intsIn_nil _ _) (fun b o e => by cases e) hB
    · refine hK (some ⟨g, 0, none⟩) cap w' (fun i hi => ⟨g, 0, rfl, ?_⟩) (fun b o e => by cases e; exact q1) hB
      have := World.ownsRow.cellAt h2 i (by omega)
      rw [Nat.zero_add, this]
      simp [List.getElem?_map, List.getElem?_eq_getElem hi]
theorem mod_at2 (q : Int) (hq : 0 < q) (hq2 : q ≤ 1000) (k : Int) : ∃ m : Nat, wrap64 ((IntKind.u64.wrap k).tmod q) = (m : Int) ∧ IntKind.i64.wrap ((IntKind.u64.wrap k).tmod q) = (m : Int) ∧ (m : Int) < q := by
  obtain ⟨m, h1, h2⟩ := mod_at q hq hq2 k
  refine ⟨m, h1, ?_, h2⟩
  rw [← h1]
  simp [IntKind.wrap, IntKind.bits, IntKind.signed, wrap64]
  generalize (k % 18446744073709551616).tmod q = r
  split <;> omega
/-- Something done, as a value. -/
def actV (A : ActV) : Value := .agg #[.int .i64 A.kind, .int .i64 A.at', .slice A.da A.dxs.length A.dc, .slice A.ca A.cs.length A.cc]
/-- What a step begins with. -/
structure StepIn (w0 w : World) (p aa bb : Nat) (d : Dev) (K : Nat) (x : RD) (ra : Option Addr) (rc : Nat) (a : Ar) (A : ActV) : Prop where
  dev : DevIn w p aa bb d K
  lst : LstS w ra rc x.l
  tie : Tie d x
  rs : d.r = 2 ∧ d.s = 12
  kl : K + 8193 < 1000000
  ain : inR a
  bw : Below w0.heap.size w0 w
  lo : w0.heap.size ≤ p ∧ w0.heap.size ≤ aa ∧ w0.heap.size ≤ bb
  err : ErrType w0
  dat0 : BytesIn w0 A.da A.dxs
  dn : A.da = none → A.dc = 0
  by8 : ∀ y ∈ A.dxs, y < 256
  dl : A.dxs.length ≤ 140737488351232
  ints0 : IntsIn w0 A.ca A.cs
  cn : A.ca = none → A.cc = 0
  cl : A.cs.length * 8 ≤ 140737488351232
theorem StepIn.dat {w0 w V : World} {p aa bb : Nat} {d : Dev} {K : Nat} {x : RD} {ra : Option Addr} {rc : Nat} {a : Ar} {A : ActV} (h : StepIn w0 w p aa bb d K x ra rc a A) (hb : Below w.heap.size w V) : BytesIn V A.da A.dxs := (h.dat0.on h.bw).on hb
theorem StepIn.len {w0 w : World} {p aa bb : Nat} {d : Dev} {K : Nat} {x : RD} {ra : Option Addr} {rc : Nat} {a : Ar} {A : ActV} (h : StepIn w0 w p aa bb d K x ra rc a A) : x.l.length ≤ 1000 := Nat.le_trans (tie_len h.tie h.rs) (by decide)
/-- What it leaves. -/
def StepTo (w : World) (p aa bb K : Nat) (e : Ending) (w' : World) : Prop :=
  ∃ d x a' c', e = .returned (.tuple #[rdV x a' c', .bool true]) ∧ DevIn w' p aa bb d (K + 8193) ∧ LstS w' a' c' x.l ∧ Fd p aa bb w w' ∧ Tie d x ∧ d.r = 2 ∧ d.s = 12
theorem below4w (w : World) (o1 o2 o3 o4 : Obj) : Below w.heap.size w ((((w.alloc o1).alloc o2).alloc o3).alloc o4) := below_step (below3w w o1 o2 o3) (below_alloc _ _)
theorem heap4w (w : World) (o1 o2 o3 o4 : Obj) : ((((w.alloc o1).alloc o2).alloc o3).alloc o4).heap[w.heap.size]? = some o1 ∧ ((((w.alloc o1).alloc o2).alloc o3).alloc o4).heap[w.heap.size + 1]? = some o2 ∧ ((((w.alloc o1).alloc o2).alloc o3).alloc o4).heap[w.heap.size + 1 + 1]? = some o3 ∧ ((((w.alloc o1).alloc o2).alloc o3).alloc o4).heap[w.heap.size + 1 + 1 + 1]? = some o4 := by
  refine ⟨alloc_old (heap3w w o1 o2 o3).1, alloc_old (heap3w w o1 o2 o3).2.1, alloc_old (heap3w w o1 o2 o3).2.2, ?_⟩
  have := alloc_at (((w.alloc o1).alloc o2).alloc o3) o4
  simpa using this
theorem act_cells {w : World} {b : Nat} {kd at' : Int} {v v' : Value} {t : TypeId} {z : Nat × Nat} (h : w.heap[b]? = some (.cells #[.int .i64 kd, .int .i64 at', v, v'] t z)) :
    w.cell? ⟨b, 0, none⟩ = some (.int .i64 kd) ∧ w.cell? ⟨b, 1, none⟩ = some (.int .i64 at') ∧ w.cell? ⟨b, 2, none⟩ = some v ∧ w.cell? ⟨b, 3, none⟩ = some v' :=
  ⟨cell_of h rfl, cell_of h rfl, cell_of h rfl, cell_of h rfl⟩
theorem mine_at {w : World} {N : Nat} {v : Value} {xs : List Nat} (h : Own w N v xs) : ∃ a c, v = .slice a xs.length c ∧ BytesIn w a xs ∧ (a = none → c = 0) ∧ ∀ b o, a = some ⟨b, o, none⟩ → N ≤ b := by
  obtain ⟨a, c, e, hb, hn⟩ := h.bytes
  refine ⟨a, c, e, hb, hn, fun b o ea => ?_⟩
  rw [e, ea] at h
  exact (World.ownsRow.lt h b rfl).1
/-- Bytes that lie above, or below, a block that is written. -/
theorem bytes_past {w w' : World} {a : Option Addr} {xs : List Nat} {k : Nat} (h : BytesIn w a xs) (hg : w.grownBy w' (some k)) (hk : ∀ b o, a = some ⟨b, o, none⟩ → k < b) : BytesIn w' a xs := fun i hi => by
  obtain ⟨b, o, e, h1⟩ := h i hi
  exact ⟨b, o, e, grown_cell hg h1 (by have := hk b o e; omega)⟩
theorem bytes_under {w0 w w' : World} {a : Option Addr} {xs : List Nat} {k : Nat} (h0 : BytesIn w0 a xs) (h : BytesIn w a xs) (hg : w.grownBy w' (some k)) (hk : w0.heap.size ≤ k) : BytesIn w' a xs := fun i hi => by
  obtain ⟨b, o, e, h1⟩ := h i hi
  obtain ⟨b', o', e', h2⟩ := h0 i hi
  rw [e] at e'
  cases e'
  have := block_lt_of_cell h2
  exact ⟨b, o, e, grown_cell hg h1 (by have : b < w0.heap.size := this; omega)⟩
theorem BytesIn.fd {w w' : World} {p aa bb K N : Nat} {d : Dev} {a : Option Addr} {xs : List Nat} (h : BytesIn w a xs) (hf : Fd p aa bb w w') (hd : DevIn w p aa bb d K) (hN : p < N ∧ aa < N ∧ bb < N) (hk : ∀ b o, a = some ⟨b, o, none⟩ → N ≤ b) : BytesIn w' a xs := fun i hi => by
  obtain ⟨b, o, e, h1⟩ := h i hi
  exact ⟨b, o, e, hf.cell hd h1 (by have := hk b o e; omega)⟩
/-- The device of the document's stored into the block that is handed back. -/
theorem step_fin {w V : World} {p aa bb K K' N : Nat} {d : Dev} {l : List RS} {a : Option Addr} {c : Nat} {old cs : Array Value} (hD : DevIn V p aa bb d K') (hl : LstS V a c l) (hf : Fd p aa bb w V) (hN : w.heap.size ≤ N) (hlt : p < w.heap.size ∧ aa < w.heap.size ∧ bb < w.heap.size) (hg : V.heap[N]? = some (.cells old 32 (0, 0))) (hk : K' ≤ K + 8193) (hK : K + 8193 < 1000000) :
    (V.setRow N cs).heap[N]? = some (.cells cs 32 (0, 0)) ∧ DevIn (V.setRow N cs) p aa bb d (K + 8193) ∧ LstS (V.setRow N cs) a c l ∧ Fd p aa bb w (V.setRow N cs) := by
  refine ⟨setRow_heap V N _ cs 32 (0, 0) hg, (hD.mono hk (by omega)).keep (setRow_other V N _ cs (by omega)) (setRow_other V N _ cs (by omega)) (setRow_other V N _ cs (by omega)), lst_setRow hl hg, hf.os, hf.tape, hf.output, by simpa [World.setRow] using hf.size, fun k hk h1 h2 h3 => (setRow_other V N k cs (by omega)).trans (hf.block k hk h1 h2 h3)⟩
theorem set_new {p aa bb N o : Nat} {w V : World} (h : Fd p aa bb w V) (hN : w.heap.size ≤ N) (v : Value) : Fd p aa bb w (V.setCell ⟨N, o, none⟩ v) :=
  ⟨h.os, h.tape, h.output, by simpa [World.setCell] using h.size, fun k hk h1 h2 h3 => (heap_far v (by omega)).trans (h.block k hk h1 h2 h3)⟩
theorem six_fd {p aa bb N : Nat} {w V : World} (h : Fd p aa bb w V) (hN : w.heap.size ≤ N) (v0 v1 v2 v3 v4 v5 : Value) : Fd p aa bb w ((((((V.setCell ⟨N, 0, none⟩ v0).setCell ⟨N, 1, none⟩ v1).setCell ⟨N, 2, none⟩ v2).setCell ⟨N, 3, none⟩ v3).setCell ⟨N, 4, none⟩ v4).setCell ⟨N, 5, none⟩ v5) :=
  set_new (set_new (set_new (set_new (set_new (set_new h hN _) hN _) hN _) hN _) hN _) hN _
theorem six_heap_d {w : World} {b : Nat} {x0 x1 x2 x3 x4 x5 : Value} {t : TypeId} (h : w.heap[b]? = some (.cells #[x0, x1, x2, x3, x4, x5] t (0, 0))) (v0 v1 v2 v3 v4 v5 : Value) : (((((((w.setCell ⟨b, 0, none⟩ v0).setCell ⟨b, 1, none⟩ v1).setCell ⟨b, 2, none⟩ v2).setCell ⟨b, 3, none⟩ v3).setCell ⟨b, 4, none⟩ v4).setCell ⟨b, 5, none⟩ v5).drew).heap[b]? = some (.cells #[v0, v1, v2, v3, v4, v5] t (0, 0)) := by rw [drew_heap]; exact six_heap h v0 v1 v2 v3 v4 v5
theorem six_far_d {b k : Nat} (w : World) (hk : k ≠ b) (v0 v1 v2 v3 v4 v5 : Value) : (((((((w.setCell ⟨b, 0, none⟩ v0).setCell ⟨b, 1, none⟩ v1).setCell ⟨b, 2, none⟩ v2).setCell ⟨b, 3, none⟩ v3).setCell ⟨b, 4, none⟩ v4).setCell ⟨b, 5, none⟩ v5).drew).heap[k]? = w.heap[k]? := by rw [drew_heap]; exact six_far w hk v0 v1 v2 v3 v4 v5
theorem six_fd_d {p aa bb b : Nat} {w0 w : World} (h : Fd p aa bb w0 w) (hN : w0.heap.size ≤ b) (v0 v1 v2 v3 v4 v5 : Value) : Fd p aa bb w0 (((((((w.setCell ⟨b, 0, none⟩ v0).setCell ⟨b, 1, none⟩ v1).setCell ⟨b, 2, none⟩ v2).setCell ⟨b, 3, none⟩ v3).setCell ⟨b, 4, none⟩ v4).setCell ⟨b, 5, none⟩ v5).drew) := (six_fd h hN v0 v1 v2 v3 v4 v5).trans (below_fd (below_drew _) p aa bb)
theorem size_sync (d : Dev) (g : Int) : (syncD d g).r = d.r ∧ (syncD d g).s = d.s := by
  unfold syncD; split <;> exact ⟨rfl, rfl⟩
theorem size_save (d : Dev) (a : Ar) (xs : List Nat) : (saveD d a xs).r = d.r ∧ (saveD d a xs).s = d.s := by
  have hw := wrL_stays (chk (laidB (nextN d a) xs)) d a.g (begA a (nextH d a))
  unfold saveD
  split
  · exact ⟨rfl, rfl⟩
  · split
    · exact ⟨hw.2.1, hw.2.2.1⟩
    · exact ⟨(size_sync _ _).1.trans hw.2.1, (size_sync _ _).2.trans hw.2.2.1⟩
theorem tie_armed {d : Dev} {x : RD} (h : Tie d x) (n : Int) : Tie { d with armed := true, left := n } { x with armed := true, left := n } :=
  ⟨h.r, h.s, h.cr, rfl, fun _ => rfl, h.srt, h.pend, h.safe, h.ok⟩
end Go.Proofs.YthaihallfjjnpaaGreatDoor
