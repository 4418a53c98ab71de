/- Tree.Put, whole. -/
import Derived.Test.YtagamkahfiackaaGreatDoorVTPut
namespace Go.Proofs.YtagamkahfiackaaGreatDoor
open Go.RowKit Go.Sort

theorem mid_of {w w1 : World} {M M1 : Nat → Option Nd} {F F1 : Nat → Prop} {p h q : Nat} {l : List It} {n0 : Nat} (hpo : ¬ Own M p) (hp : w.heap[p]? = some (.cells #[.pointer (some ⟨q, 0, none⟩), .int .i64 n0] 84 (0, 0))) (hk : Kept M M1 F F1 w w1) (hN : Nod M1 (h + 1) 1 8 q l F1) (hs : Srt l) (hne : l ≠ []) (b : Bool) (hb : l.length = if b then n0 else n0 + 1) :
    w1.cell? ⟨p, 1, none⟩ = some (.int .i64 n0) ∧ ∃ W M1 F1, (if b then W = w1 else (Instr.storeAt 3 (.pointer (some ⟨p, 1, none⟩)) (.int .i64 ((n0 : Int) + 1))).run Tryz.prog w1 = .ok () W) ∧ Mid w M F p W M1 F1 h q l := by
  obtain ⟨p1, p2⟩ := hk.ext.stays hp hpo
  have hkt : KeptT M M1 F F1 p w w1 := ⟨hk.st, hk.ext.widen p, hk.rest, hk.new⟩
  refine ⟨cell_of p1 rfl, ?_⟩
  cases b with
  | true =>
    simp only [if_true] at hb
    exact ⟨w1, M1, F1, rfl, hkt, hN, by rw [hb]; exact p1, p2, blk_lt hp, hs, hne⟩
  | false =>
    simp only [Bool.false_eq_true, if_false] at hb
    refine ⟨w1.setCell ⟨p, 1, none⟩ (.int .i64 ((n0 : Int) + 1)), M1, F1, store_one (cell_of p1 rfl) (frozen_of p1) (by kernel_rfl) rfl rfl, ⟨hk.st.far p2, hkt.ext.setp, hk.rest, hk.new⟩, hN, ?_, p2, blk_lt hp, hs, hne⟩
    have := heap_set (o := 1) (.int .i64 ((n0 : Int) + 1)) p1
    rw [hb]
    simpa using this
theorem tput_old {w : World} {M : Nat → Option Nd} {p h q : Nat} {l : List It} {F : Nat → Prop} (hs : Store w M) (hS : Srt l) (hpo : ¬ Own M p) (hN : Nod M (h + 1) 1 7 q l F) (hp : w.heap[p]? = some (.cells #[.pointer (some ⟨q, 0, none⟩), .int .i64 l.length] 84 (0, 0))) (hl : l.length ≤ 1000000) (k : ByteArray) (v : Vl) :
    Calls Tryz.prog 35 #[.pointer (some ⟨p, 0, none⟩), .string k, .slice v.a v.n v.c] w (TPut w M p l F k v) := by
  refine tput_walk (h := h) (get k l).isSome hl (cell_of hp rfl) ((put_ h (k, v) hs hN hS).mono fun e w1 he => ?_)
  obtain ⟨e1, M1, F1, hk, hN1⟩ := he
  exact ⟨e1, mid_of hpo hp hk hN1 (hS.ins k v) (ins_ne k v l) _ (ins_len hS k v)⟩
theorem alloc_vn (w : World) (a : Act) (o : Oper) (h : o.op = .alloc 103) : (execOp a.eval o).run Tryz.prog w = .ok (.value (.pointer (some ⟨w.heap.size, 0, none⟩))) (w.alloc (.cells #[.slice none 0 0, .slice none 0 0] 103)) := by
  obtain ⟨i0, hi0, hz0, hz1, hz2⟩ := info_parts infoVN
  have hz : (zeroValue 103).run Tryz.prog w = .ok (.agg #[.slice none 0 0, .slice none 0 0]) w := by simp [zeroValue, typeInfo, hi0, hz0]
  unfold execOp
  simp only [h]
  simp [Instr.alloc, hz, newVar, newObj, go_sem, Value.cells, Result.andThen]
  rfl
set_option maxRecDepth 100000 in
set_option maxHeartbeats 1000000 in
theorem tput_new {w : World} {M : Nat → Option Nd} {p : Nat} {F : Nat → Prop} (hs : Store w M) (hpo : ¬ Own M p) (hp : w.heap[p]? = some (.cells #[.pointer none, .int .i64 0] 84 (0, 0))) (k : ByteArray) (v : Vl) :
    Calls Tryz.prog 35 #[.pointer (some ⟨p, 0, none⟩), .string k, .slice v.a v.n v.c] w (TPut w M p [] F k v) := by
  have hpl := blk_lt hp
  obtain ⟨U1, hU1⟩ : ∃ U, U = w.alloc (.cells #[.slice none 0 0, .slice none 0 0] 103) := ⟨_, rfl⟩
  have b1 : Below w.heap.size w U1 := by rw [hU1]; exact below_alloc _ _
  have r1 : U1.heap[w.heap.size]? = some (.cells #[.slice none 0 0, .slice none 0 0] 103 (0, 0)) := by rw [hU1]; exact new_blk _ _
  have p1 := (b1.block p hpl).trans hp
  obtain ⟨s1, s2⟩ := hs.add (r := w.heap.size) (n := ⟨[], [], .slice none 0 0, .slice none 0 0⟩) b1 (Nat.le_refl _) r1 (World.ownsRow_nil _ _ _ _) (World.ownsRow_nil _ _ _ _) (fun k e => by cases e) (fun k e => by cases e)
  have hpo1 : ¬ Own (upd M w.heap.size ⟨[], [], .slice none 0 0, .slice none 0 0⟩) p := fun g => by
    rcases s2.new p g with g | g
    · exact hpo g
    · omega
  obtain ⟨U2, hU2⟩ : ∃ U, U = U1.setCell ⟨p, 0, none⟩ (.pointer (some ⟨w.heap.size, 0, none⟩)) := ⟨_, rfl⟩
  have hst : (Instr.storeAt 82 (.pointer (some ⟨p, 0, none⟩)) (.pointer (some ⟨w.heap.size, 0, none⟩))).run Tryz.prog U1 = .ok () U2 := by rw [hU2]; exact store_one (cell_of p1 rfl) (frozen_of p1) (by kernel_rfl) rfl rfl
  have p2 : U2.heap[p]? = some (.cells #[.pointer (some ⟨w.heap.size, 0, none⟩), .int .i64 ((0 : Nat) : Int)] 84 (0, 0)) := by
    rw [hU2]
    have := heap_set (o := 0) (.pointer (some ⟨w.heap.size, 0, none⟩)) p1
    simpa using this
  have st2 : Store U2 (upd M w.heap.size ⟨[], [], .slice none 0 0, .slice none 0 0⟩) := by rw [hU2]; exact s1.far hpo1
  have ex2 : Ext (fun k => Own M k ∨ k = p) (fun k => Own (upd M w.heap.size ⟨[], [], .slice none 0 0, .slice none 0 0⟩) k ∨ k = p) w U2 := by rw [hU2]; exact (s2.widen p).setp
  have hN : Nod (upd M w.heap.size ⟨[], [], .slice none 0 0, .slice none 0 0⟩) (0 + 1) 0 7 w.heap.size [] (fun x => x = w.heap.size) :=
    ⟨_, [], fun _ => False, upd_self _ _ _, Nat.zero_le _, Nat.zero_le _, fun _ => rfl, fun z => (z rfl).elim, kids_nil, rfl, id, fun x => ⟨.inl, fun q => q.elim id False.elim⟩⟩
  have HPut : Hid (Calls Tryz.prog 50 #[.pointer (some ⟨w.heap.size, 0, none⟩), .agg #[.string k, .slice v.a v.n v.c]] U2 fun e w1 => e = .returned (.tuple #[.slice none 0 0, .bool false]) ∧ w1.cell? ⟨p, 1, none⟩ = some (.int .i64 0) ∧ ∃ W, (Instr.storeAt 3 (.pointer (some ⟨p, 1, none⟩)) (.int .i64 1)).run Tryz.prog w1 = .ok () W ∧ W.cell? ⟨p, 0, none⟩ = some (.pointer (some ⟨w.heap.size, 0, none⟩)) ∧ Hid (Calls Tryz.prog 51 #[.pointer (some ⟨w.heap.size, 0, none⟩)] W fun e w' => e = .returned (.bool false) ∧ w' = W) ∧ Hid (TPut w M p [] F k v (.returned (.tuple #[.slice none 0 0, .bool false])) W)) := by
    refine (put_ 0 (k, v) st2 hN List.Pairwise.nil).mono fun e w1 he => ?_
    obtain ⟨e1, M1, F1, hk, hN1⟩ := he
    have hN1' : Nod M1 (0 + 1) 1 7 w.heap.size (ins k v []) F1 ∧ ∃ np, M1 w.heap.size = some np ∧ np.its.length = 1 := by
      obtain ⟨n, ls, Fk, h1, h2, h3, h4, h5, h6, h7, h8⟩ := hN1
      have hks := h4 rfl
      rw [hks] at h6
      obtain ⟨rfl, hno⟩ := h6.nil
      rw [weave_nil] at h7
      have hlen : n.its.length = 1 := by rw [← h7]; rfl
      refine ⟨⟨n, [], Fk, h1, by omega, by omega, h4, h5, by rw [hks]; exact hno, by rw [weave_nil]; exact h7, h8⟩, n, h1, hlen⟩
    obtain ⟨hN2, np, hnp, hnl⟩ := hN1'
    obtain ⟨c1, W, M2, F2, hW, hm⟩ := mid_of hpo1 p2 hk (hN2.wide (Nat.le_refl _) (by omega)) (Srt.ins List.Pairwise.nil k v) (ins_ne k v []) false rfl
    have hW' : (Instr.storeAt 3 (.pointer (some ⟨p, 1, none⟩)) (.int .i64 ((0 : Nat) + 1))).run Tryz.prog w1 = .ok () W := hW
    have hW2 : (Instr.storeAt 3 (.pointer (some ⟨p, 1, none⟩)) (.int .i64 1)).run Tryz.prog w1 = .ok () W := hW'
    refine ⟨e1, c1, W, hW2, cell_of hm.blk rfl, ?_, ?_⟩
    · obtain ⟨n2, ls, Fk, g1, g2, g3, g4, g5, g6, g7, _⟩ := hm.nod
      have hks := g4 rfl
      rw [hks] at g6
      obtain ⟨rfl, _⟩ := g6.nil
      rw [weave_nil] at g7
      have hlen : n2.its.length = 1 := by rw [← g7]; rfl
      have := hasTooMany_ hm.k.st g1
      rw [hlen] at this
      exact this
    · obtain ⟨n2, ls, Fk, g1, g2, g3, g4, g5, g6, g7, _⟩ := id hm.nod
      have hks := g4 rfl
      rw [hks] at g6
      obtain ⟨rfl, _⟩ := g6.nil
      rw [weave_nil] at g7
      have hlen : n2.its.length = 1 := by rw [← g7]; rfl
      obtain ⟨M', F', hk', ht'⟩ := hm.small g1 (by omega)
      have hsU := ex2.size
      refine ⟨rfl, M', F', ⟨hk'.st, ex2.trans hk'.ext, fun x hx hno => ?_, fun x hx => ?_⟩, ht'⟩
      · rw [hk'.rest x (by omega) (by omega), upd_other _ _ (by omega)]
      · rcases hk'.new x hx with g | g
        · exact .inr (by omega)
        · exact .inr (by omega)
  have hal : Hid (∀ (a : Act) (o : Oper), o.op = .alloc 103 → (execOp a.eval o).run Tryz.prog w = .ok (.value (.pointer (some ⟨w.heap.size, 0, none⟩))) U1) := fun a o h => by rw [hU1]; exact alloc_vn w a o h
  have c0 := cell_of (o := 0) hp rfl
  have c2 := cell_of (o := 0) p2 rfl
  have w1 := wraps_i64 1 (by omega) (by omega)
  clear hs hpo hp hpl hU1 b1 r1 p1 s1 s2 hpo1 hU2 p2 st2 ex2 hN
  go_enter Tryz.func35, Tryz.ntmps35
  go_wp2_with (first
    | (refine wpList_exec rfl (hal.out _ _ rfl) ?_)
    | (refine wpList_store_at rfl _ _ _ rfl _ _ rfl rfl hst ?_)
    | (go_at_call 50; refine HPut.out.mono ?_; rintro e w2 ⟨rfl, d1, W, hst2, d2, HT, HZ⟩)
    | (refine wpList_store_at rfl _ _ _ rfl _ _ rfl rfl hst2 ?_)
    | (go_at_call 51; refine HT.out.mono ?_; rintro e w5 ⟨rfl, rfl⟩)
    | fail)
  go_ret2
  exact HZ.out
theorem tput_ {w : World} {M : Nat → Option Nd} {p : Nat} {l : List It} {F : Nat → Prop} (hs : Store w M) (ht : TreeAt w M p l F) (hl : l.length ≤ 1000000) (k : ByteArray) (v : Vl) :
    Calls Tryz.prog 35 #[.pointer (some ⟨p, 0, none⟩), .string k, .slice v.a v.n v.c] w (TPut w M p l F k v) := by
  rcases ht.root with ⟨rfl, _, hp⟩ | ⟨h, q, _, hN, hp⟩
  · exact tput_new hs ht.own hp k v
  · exact tput_old hs ht.srt ht.own hN hp hl k v
end Go.Proofs.YtagamkahfiackaaGreatDoor
