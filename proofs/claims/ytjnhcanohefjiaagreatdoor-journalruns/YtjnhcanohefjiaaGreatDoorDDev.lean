/- A device in memory; what stays when one is worked on. -/
import Derived.Test.YtjnhcanohefjiaaGreatDoorDMem
import Derived.Laws.CopyOwn
namespace Go.Proofs.YtjnhcanohefjiaaGreatDoor
open Go.RowKit Go.Sort Go.Maps

theorem plV_inj {a b : Pl} (h : plV a = plV b) : a = b := by
  obtain ⟨a1, a2⟩ := a; obtain ⟨b1, b2⟩ := b
  simp only [plV, Value.agg.injEq, Array.mk.injEq, List.cons.injEq, Value.int.injEq, true_and, and_true] at h
  rw [h.1, h.2]
theorem keyL_inj {a b : Pl} (ha : inP a) (hb : inP b) (h : keyL a = keyL b) : a = b :=
  plV_inj (keyed.inj (key_ a ha) (h ▸ key_ b hb))
theorem keyL_ne {a b : Pl} (ha : inP a) (hb : inP b) (h : a ≠ b) : keyL a ≠ keyL b := fun e => h (keyL_inj ha hb e)
theorem key_isKey {a : Pl} (ha : inP a) : WideAt.IsKeyLit (keyL a) := keyed.key (key_ a ha)
theorem sameKey_iff {a b : Pl} (ha : inP a) (hb : inP b) : (keyL a).sameKey (keyL b) = decide (a = b) := by
  by_cases h : a = b
  · rw [h, WideAt.sameKey_self (key_isKey hb)]; simp
  · rw [sameKey_ne (keyL_ne ha hb h)]; simp [h]
/-- What is safe, as a map reads. -/
def SafeIs (D : DataW Unit) (f : Pl → Ct) : Prop := ∀ k, inP k → D.atKey (keyL k) (ctD zeroC) = ctD (f k)
/-- What is pending, as a map reads. -/
def PendIs (D : DataW Unit) (l : List (Pl × Ct)) : Prop := ∀ k, inP k → has D (keyL k) = (getP l k).isSome ∧ ∀ c, getP l k = some c → ∀ zd, D.atKey (keyL k) zd = ctD c
theorem SafeIs.put {D : DataW Unit} {f : Pl → Ct} (h : SafeIs D f) (hD : IsMap D) {k : Pl} (hk : inP k) (c : Ct) : SafeIs (D.put (keyL k) (ctD c)) (updC f k c) := by
  intro j hj
  by_cases e : j = k
  · subst e; rw [atKey_put_same hD (key_isKey hk)]; simp [updC]
  · rw [atKey_put_other (keyL_ne hj hk e), h j hj]; simp [updC, e]
theorem PendIs.put {D : DataW Unit} {l : List (Pl × Ct)} (h : PendIs D l) (hD : IsMap D) {k : Pl} (hk : inP k) (c : Ct) : PendIs (D.put (keyL k) (ctD c)) (putP l k c) := by
  intro j hj
  by_cases e : j = k
  · subst e
    rw [getP_put_same]
    exact ⟨by rw [has_put_same hD (key_isKey hk)]; rfl, fun c' hc' zd => by cases hc'; exact atKey_put_same hD (key_isKey hk) _ _⟩
  · rw [getP_put_other _ _ _ _ e, has_put_other (keyL_ne hj hk e)]
    exact ⟨(h j hj).1, fun c' hc' zd => by rw [atKey_put_other (keyL_ne hj hk e)]; exact (h j hj).2 c' hc' zd⟩
theorem PendIs.del {D : DataW Unit} {l : List (Pl × Ct)} (h : PendIs D l) {k : Pl} (hk : inP k) : PendIs (D.del (keyL k)) (l.filter (fun x => decide (x.1 ≠ k))) := by
  intro j hj
  rw [getP_filter (fun p => decide (p ≠ k))]
  by_cases e : j = k
  · subst e
    simp [has_del_same]
  · rw [if_pos (by simp [e]), has_del_other (keyL_ne hj hk e)]
    exact ⟨(h j hj).1, fun c' hc' zd => by rw [atKey_del_other (keyL_ne hj hk e)]; exact (h j hj).2 c' hc' zd⟩
theorem PendIs.nil : PendIs (.map []) [] := fun k _ => ⟨rfl, fun c hc => by cases hc⟩
theorem SafeIs.nil : SafeIs (.map []) (fun _ => zeroC) := fun _ _ => rfl
/-- A device's cells. -/
def devC (d : Dev) (a b : Nat) : Array Value := #[.int .i64 d.r, .int .i64 d.s, .map (some a), .map (some b), .bool d.armed, .int .i64 d.left, .bool d.crashed]
/-- A device: its own block p, what is safe in the map a, what is pending in the map b; K: how many writes there were at most. -/
structure DevIn (w : World) (p a b : Nat) (d : Dev) (K : Nat) : Prop where
  blk : w.heap[p]? = some (.cells (devC d a b) 71 (0, 0))
  ne : a ≠ b
  safe : ∃ n D, w.ownsMap Tryz.prog 132 ctE a n D ∧ SafeIs D d.safe ∧ n + d.pend.length ≤ K
  pend : ∃ n D, w.ownsMap Tryz.prog 132 ctE b n D ∧ PendIs D d.pend ∧ n ≤ K
  ok : okD d
  lim : 1 ≤ d.r ∧ d.r ≤ 16 ∧ 1 ≤ d.s ∧ d.s ≤ 16384
  lft : 0 ≤ d.left ∧ d.left ≤ 9223372036854775807
  kl : K ≤ 1000000
theorem inP_of {d : Dev} {k : Pl} (h : hasD d k) (hl : 1 ≤ d.r ∧ d.r ≤ 16 ∧ 1 ≤ d.s ∧ d.s ≤ 16384) : inP k := by
  unfold hasD at h; unfold inP inI; omega
theorem DevIn.mapA {w : World} {p a b : Nat} {d : Dev} {K : Nat} (h : DevIn w p a b d K) : ∃ es cl, w.heap[a]? = some (.map es cl) := by
  obtain ⟨n, D, ⟨es, cl, h1, _⟩, _⟩ := h.safe
  exact ⟨es, cl, h1⟩
theorem DevIn.mapB {w : World} {p a b : Nat} {d : Dev} {K : Nat} (h : DevIn w p a b d K) : ∃ es cl, w.heap[b]? = some (.map es cl) := by
  obtain ⟨n, D, ⟨es, cl, h1, _⟩, _⟩ := h.pend
  exact ⟨es, cl, h1⟩
theorem DevIn.pa {w : World} {p a b : Nat} {d : Dev} {K : Nat} (h : DevIn w p a b d K) : p ≠ a := fun e => by
  obtain ⟨es, cl, h1⟩ := h.mapA
  rw [← e, h.blk] at h1; cases h1
theorem DevIn.pb {w : World} {p a b : Nat} {d : Dev} {K : Nat} (h : DevIn w p a b d K) : p ≠ b := fun e => by
  obtain ⟨es, cl, h1⟩ := h.mapB
  rw [← e, h.blk] at h1; cases h1
theorem DevIn.lts {w : World} {p a b : Nat} {d : Dev} {K : Nat} (h : DevIn w p a b d K) : p < w.heap.size ∧ a < w.heap.size ∧ b < w.heap.size := by
  obtain ⟨es, cl, h1⟩ := h.mapA
  obtain ⟨es', cl', h2⟩ := h.mapB
  exact ⟨blk_lt h.blk, blk_lt h1, blk_lt h2⟩
theorem owns_keep {w w' : World} {a n : Nat} {D : DataW Unit} (h : w.ownsMap Tryz.prog 132 ctE a n D) (e : w'.heap[a]? = w.heap[a]?) : w'.ownsMap Tryz.prog 132 ctE a n D := by
  obtain ⟨es, cl, h1, h2⟩ := h
  exact ⟨es, cl, e.trans h1, h2⟩
/-- It is there as long as its three blocks stay. -/
theorem DevIn.keep {w w' : World} {p a b : Nat} {d : Dev} {K : Nat} (h : DevIn w p a b d K) (e1 : w'.heap[p]? = w.heap[p]?) (e2 : w'.heap[a]? = w.heap[a]?) (e3 : w'.heap[b]? = w.heap[b]?) : DevIn w' p a b d K := by
  obtain ⟨n, D, h1, h2⟩ := h.safe
  obtain ⟨m, E, h3, h4⟩ := h.pend
  exact ⟨e1.trans h.blk, h.ne, ⟨n, D, owns_keep h1 e2, h2⟩, ⟨m, E, owns_keep h3 e3, h4⟩, h.ok, h.lim, h.lft, h.kl⟩
theorem DevIn.on {w w' : World} {p a b : Nat} {d : Dev} {K : Nat} (h : DevIn w p a b d K) (hb : Below w.heap.size w w') : DevIn w' p a b d K :=
  h.keep (hb.block p h.lts.1) (hb.block a h.lts.2.1) (hb.block b h.lts.2.2)
theorem DevIn.mono {w : World} {p a b : Nat} {d : Dev} {K K' : Nat} (h : DevIn w p a b d K) (hk : K ≤ K') (hl : K' ≤ 1000000) : DevIn w p a b d K' := by
  obtain ⟨n, D, h1, h2, h3⟩ := h.safe
  obtain ⟨m, E, h4, h5, h6⟩ := h.pend
  exact ⟨h.blk, h.ne, ⟨n, D, h1, h2, by omega⟩, ⟨m, E, h4, h5, by omega⟩, h.ok, h.lim, h.lft, hl⟩
/-- What stays while a device is worked on: all but its three blocks. -/
structure Fd (p a b : Nat) (w w' : World) : Prop where
  os : w'.os = w.os
  tape : w'.tape = w.tape
  output : w'.output = w.output
  size : w.heap.size ≤ w'.heap.size
  block : ∀ k, k < w.heap.size → k ≠ p → k ≠ a → k ≠ b → w'.heap[k]? = w.heap[k]?
theorem Fd.refl (p a b : Nat) (w : World) : Fd p a b w w := ⟨rfl, rfl, rfl, Nat.le_refl _, fun _ _ _ _ _ => rfl⟩
theorem Fd.trans {p a b : Nat} {w w' w'' : World} (h : Fd p a b w w') (k : Fd p a b w' w'') : Fd p a b w w'' :=
  ⟨k.os.trans h.os, k.tape.trans h.tape, k.output.trans h.output, Nat.le_trans h.size k.size, fun i hi h1 h2 h3 => (k.block i (Nat.lt_of_lt_of_le hi h.size) h1 h2 h3).trans (h.block i hi h1 h2 h3)⟩
theorem below_fd {w w' : World} (h : Below w.heap.size w w') (p a b : Nat) : Fd p a b w w' := ⟨h.os, h.tape, h.output, h.size, fun k hk _ _ _ => h.block k hk⟩
theorem Fd.below {p a b N : Nat} {w w' : World} (h : Fd p a b w w') (h0 : N ≤ w.heap.size) (hp : N ≤ p) (ha : N ≤ a) (hb : N ≤ b) : Below N w w' :=
  ⟨h.os, h.tape, h.output, h.size, fun k hk => h.block k (by omega) (by omega) (by omega) (by omega)⟩
theorem turned_fd {p a b m : Nat} {w w' : World} (h : w.mapTurned w' m) (hm : m = a ∨ m = b) : Fd p a b w w' := by
  have hg := h.grown
  exact ⟨hg.os, hg.tape, hg.output, hg.size, fun k hk _ h2 h3 => hg.block k hk (fun e => by simp only [Option.some.injEq] at e; omega)⟩
theorem set_fd (p a b o : Nat) (w : World) (v : Value) : Fd p a b w (w.setCell ⟨p, o, none⟩ v) := ⟨rfl, rfl, rfl, by simp [World.setCell], fun k _ h1 _ _ => heap_far v h1⟩
theorem DevIn.cells {w : World} {p a b : Nat} {d : Dev} {K : Nat} (h : DevIn w p a b d K) : w.cell? ⟨p, 0, none⟩ = some (.int .i64 d.r) ∧ w.cell? ⟨p, 1, none⟩ = some (.int .i64 d.s) ∧ w.cell? ⟨p, 2, none⟩ = some (.map (some a)) ∧ w.cell? ⟨p, 3, none⟩ = some (.map (some b)) ∧ w.cell? ⟨p, 4, none⟩ = some (.bool d.armed) ∧ w.cell? ⟨p, 5, none⟩ = some (.int .i64 d.left) ∧ w.cell? ⟨p, 6, none⟩ = some (.bool d.crashed) :=
  ⟨cell_of h.blk rfl, cell_of h.blk rfl, cell_of h.blk rfl, cell_of h.blk rfl, cell_of h.blk rfl, cell_of h.blk rfl, cell_of h.blk rfl⟩
/-- The content of a sector in a block of its own. -/
def CtAt (w : World) (b : Nat) (c : Ct) : Prop := w.heap[b]? = some (.cells (vals c).toArray 137 (0, 0))
theorem infoC : (Tryz.prog.info? 137).map (fun i => (i.zero, i.size)) = some (some (.agg (Array.replicate 64 (.int .u8 0))), 64) := by kernel_rfl
theorem sizeB : (Tryz.prog.info? 5).map (·.size) = some 1 := by kernel_rfl
theorem zero_vals : Array.replicate 64 (Value.int .u8 0) = (vals zeroC).toArray := by
  apply Array.toList_inj.1
  simp [vals, zeroC]
theorem load_ct {w : World} {b : Nat} {c : Ct} (h : CtAt w b c) (hc : c.length = 64) : (Instr.loadAt 137 (.pointer (some ⟨b, 0, none⟩))).run Tryz.prog w = .ok (ctV c) w := by
  simp only [Instr.loadAt, Instr.sureAddr, Sem.run_bind, Sem.run_pure, Result.andThen]
  exact run_loadVar_row w b 137 137 _ (0, 0) _ h Tryz.underlying137 rfl (by rw [List.size_toArray, vals_len, hc]; exact (zero_of_info infoC).2)
theorem store_ct {w : World} {b : Nat} {c c' : Ct} (h : CtAt w b c) (hc : c.length = 64) (hc' : c'.length = 64) : (Instr.storeAt 137 (.pointer (some ⟨b, 0, none⟩)) (ctV c')).run Tryz.prog w = .ok () (w.setRow b (vals c').toArray) := by
  simp only [Instr.storeAt, Instr.sureAddr, Sem.run_bind, Sem.run_pure, Result.andThen]
  exact run_storeVar_row w b 137 137 _ _ h (by rw [List.size_toArray, vals_len, hc']; exact (zero_of_info infoC).2) (by simp [vals_len, hc, hc']) (by rw [Array.all_eq_true_iff_forall_mem]; intro v hv; exact vals_one c' v (by simpa using hv))
theorem CtAt.set {w : World} {b : Nat} {c : Ct} (h : CtAt w b c) (c' : Ct) : CtAt (w.setRow b (vals c').toArray) b c' := setRow_heap w b _ _ 137 (0, 0) h
theorem CtAt.on {w w' : World} {b : Nat} {c : Ct} (h : CtAt w b c) (hb : Below w.heap.size w w') : CtAt w' b c := (hb.block b (blk_lt h)).trans h
theorem loadVar_ct {w : World} {b : Nat} {c : Ct} (h : CtAt w b c) (hc : c.length = 64) : (loadVar 137 ⟨b, 0, none⟩).run Tryz.prog w = .ok (ctV c) w :=
  run_loadVar_row w b 137 137 _ (0, 0) _ h Tryz.underlying137 rfl (by rw [List.size_toArray, vals_len, hc]; exact (zero_of_info infoC).2)
theorem BytesIn.take {w : World} {a : Option Addr} {xs : List Nat} (h : BytesIn w a xs) (n : Nat) : BytesIn w a (xs.take n) := by
  intro i hi
  rw [List.length_take] at hi
  obtain ⟨b, o, e, h1⟩ := h i (by omega)
  refine ⟨b, o, e, ?_⟩
  rw [h1, List.getD_eq_getElem?_getD, List.getD_eq_getElem?_getD, List.getElem?_take_of_lt (by omega)]
theorem ct_bytes {w : World} {b : Nat} {c : Ct} (t : TypeId) (h : w.heap[b]? = some (.cells (vals c).toArray t (0, 0))) : BytesIn w (some ⟨b, 0, none⟩) c := by
  intro i hi
  refine ⟨b, 0, rfl, ?_⟩
  rw [Nat.zero_add]
  exact cell_of h (by simpa using vals_get c i hi)
end Go.Proofs.YtjnhcanohefjiaaGreatDoor
