/- What the journal's calls leave of the device, plainly: its size, how many writes go well still; a journal that is alive lies on a device at rest. -/
import Derived.Test.YtjnhcanohefjiaaGreatDoorRjSB
namespace Go.Proofs.YtjnhcanohefjiaaGreatDoor
open Go.RowKit Go.Sort Go.Maps

/-- As great as it was, and its number of writes one that can be. -/
structure Rg (d d' : Dev) : Prop where
  r : d'.r = d.r
  s : d'.s = d.s
  lf : (0 ≤ d.left ∧ d.left ≤ 9223372036854775807) → 0 ≤ d'.left ∧ d'.left ≤ 9223372036854775807
theorem Rg.refl (d : Dev) : Rg d d := ⟨rfl, rfl, id⟩
theorem Rg.trans {a b c : Dev} (h : Rg a b) (k : Rg b c) : Rg a c := ⟨k.r.trans h.r, k.s.trans h.s, fun q => k.lf (h.lf q)⟩
theorem Rg.write (d : Dev) (k : Pl) (xs : List Nat) : Rg d (writeD d k xs) := ⟨(size_write d k xs).1, (size_write d k xs).2, left_write k xs⟩
theorem Rg.sync (d : Dev) (g : Int) : Rg d (syncD d g) := by
  unfold syncD
  split
  · exact ⟨rfl, rfl, id⟩
  · exact Rg.refl d
theorem Rg.cln (a : Ar) (row : List Nat) (d : Dev) : ∀ i, Rg d (clnS a row d i).1
  | 0 => Rg.refl d
  | i + 1 => by
    have ih := Rg.cln a row d i
    show Rg d (clnStep a row i (clnS a row d i)).1
    generalize clnS a row d i = s at ih ⊢
    unfold clnStep
    split
    · exact ih
    · split
      · exact ih
      · split
        · exact ih
        · split
          · exact ih.trans (Rg.write _ _ _)
          · exact ih.trans (Rg.write _ _ _)
theorem Rg.clean (a : Ar) (row : List Nat) (d : Dev) : Rg d (cleanD a row d) := by
  have h := Rg.cln a row d a.s.toNat
  unfold cleanD
  split
  · exact h
  · split
    · exact h.trans (Rg.sync _ _)
    · exact h
theorem Rg.wrtS (a : Ar) (row : List Nat) (f : Nat) (d : Dev) : ∀ k, Rg d (wrtS a row f d k).1
  | 0 => Rg.refl d
  | k + 1 => by
    have ih := Rg.wrtS a row f d k
    unfold Go.Proofs.YtjnhcanohefjiaaGreatDoor.wrtS
    split
    · exact ih
    · exact ih.trans (Rg.write _ _ _)
theorem Rg.wrt (a : Ar) (row : List Nat) (sf : Nat) (d : Dev) : Rg d (wrtD a row sf d) := by
  have h := Rg.wrtS a row (sf / 64) d (cntJ row sf)
  unfold wrtD
  split
  · exact h
  · exact h.trans (Rg.sync _ _)
theorem Rg.flush (d : Dev) (J : Jr) : Rg d (flushD d J) := by
  unfold flushD
  split
  · exact Rg.refl d
  · split
    · exact Rg.refl d
    · exact Rg.wrt _ _ _ _
theorem Rg.rew (d : Dev) (J : Jr) : Rg d (rewD d J) := by
  unfold rewD
  split
  · exact Rg.refl d
  · exact Rg.clean _ _ _
theorem Rg.cut (d : Dev) (J : Jr) (n : Int) : Rg d (cutD d J n) := by
  unfold cutD
  split
  · exact Rg.refl d
  · split
    · exact Rg.refl d
    · exact Rg.clean _ _ _
theorem Rg.rest (d : Dev) (ns : List Int) : Rg d (restartD d ns) := ⟨rfl, rfl, fun _ => ⟨by show (0 : Int) ≤ 0; omega, by show (0 : Int) ≤ _; omega⟩⟩
theorem Rg.inn {d d' : Dev} (h : Rg d d') {a : Ar} (hin : inJ d a) : inJ d' a := by unfold inJ; rw [h.r, h.s]; exact hin
theorem flush_a (d : Dev) (J : Jr) : (flushJ d J).a = J.a := by
  unfold flushJ
  split
  · rfl
  · split
    · rfl
    · split <;> rfl
theorem rew_a (d : Dev) (J : Jr) (ep : Nat) : (rewJ d J ep).a = J.a := by unfold rewJ; split <;> rfl
theorem cut_a (d : Dev) (J : Jr) (n : Int) : (cutJ d J n).a = J.a := by
  unfold cutJ
  split
  · rfl
  · split <;> rfl
theorem app_calm {d : Dev} {J : Jr} (h : J.dead = 0 → Calm d J) (hj : okJ J) (xs : List Nat) : (appJ J xs).dead = 0 → Calm d (appJ J xs) := fun q => by
  rw [(app_keeps J xs).2.2.2.1] at q
  exact (h q).append hj.sf xs
theorem flush_calm {d : Dev} {J : Jr} (h : J.dead = 0 → Calm d J) (hj : okJ J) : (flushJ d J).dead = 0 → Calm (flushD d J) (flushJ d J) := fun q => by
  by_cases hd : J.dead = 0
  · by_cases he : flushE d J = 0
    · exact ((h hd).flush hj he).1
    · exfalso
      by_cases hs : J.sf = J.pss.length
      · exact he ((flush_none (d := d) hs).2.2.trans hd)
      · obtain ⟨_, f2, f3⟩ := flush_some (d := d) hd hs
        rw [f2] at he
        rw [f3, if_neg he] at q
        exact he q
  · exfalso
    have e : flushJ d J = J := if_pos hd
    rw [e] at q
    exact hd q
theorem rew_calm {d : Dev} {J : Jr} (h : J.dead = 0 → Calm d J) (ep : Nat) : (rewJ d J ep).dead = 0 → Calm (rewD d J) (rewJ d J ep) := fun q => by
  by_cases hd : J.dead = 0
  · have hd' : ¬ J.dead ≠ 0 := fun e => e hd
    have e : rewJ d J ep = ⟨J.a, ep, [], 0, cleanE J.a [] d⟩ := if_neg hd'
    rw [e] at q
    have he : rewE d J = 0 := (if_neg hd').trans q
    exact ((h hd).rewind ep he).1
  · exfalso
    have e : rewJ d J ep = J := if_pos hd
    rw [e] at q
    exact hd q
theorem cut_calm {d : Dev} {J : Jr} (h : J.dead = 0 → Calm d J) (hj : okJ J) (n : Int) : (cutJ d J n).dead = 0 → Calm (cutD d J n) (cutJ d J n) := fun q => by
  by_cases hd : J.dead = 0
  · have hd' : ¬ J.dead ≠ 0 := fun e => e hd
    by_cases hb : cutBad J n
    · have e1 : cutJ d J n = J := by unfold cutJ; rw [if_neg hd', if_pos hb]
      have e2 : cutD d J n = d := by unfold cutD; rw [if_neg hd', if_pos hb]
      rw [e1, e2]
      exact h hd
    · have e : cutJ d J n = ⟨J.a, J.ep, J.pss.take n.toNat, n.toNat, cleanE J.a (allB J.ep (J.pss.take n.toNat)) d⟩ := by unfold cutJ; rw [if_neg hd', if_neg hb]
      rw [e] at q
      have he : cutE d J n = 0 := by unfold cutE; rw [if_neg hd', if_neg hb]; exact q
      exact (h hd).cut hj n hb he
  · exfalso
    have e : cutJ d J n = J := if_pos hd
    rw [e] at q
    exact hd q
theorem arm_calm {d : Dev} {J : Jr} (h : J.dead = 0 → Calm d J) (b : Bool) (l : Int) : J.dead = 0 → Calm { d with armed := b, left := l } J := fun q =>
  ⟨⟨(h q).ok.srt, (h q).ok.pend, (h q).ok.safe, (h q).ok.wid⟩, (h q).pend, (h q).cr, (h q).inn, (h q).lies, (h q).alive⟩
theorem tie_armed {d : Dev} {x : RD} (h : Tie d x) (n : Int) : Tie { d with armed := true, left := n } { x with armed := true, left := n } :=
  ⟨h.r, h.s, h.cr, rfl, fun _ => rfl, h.srt, h.pend, h.safe, h.ok⟩
/-- What a step's arguments are. -/
structure AOk (w0 : World) (A : ActV) : Prop where
  dat : BytesIn w0 A.da A.dxs
  dn : A.da = none → A.dc = 0
  by8 : ∀ y ∈ A.dxs, y < 256
  dl : A.dxs.length ≤ 140737488351232
  ints : IntsIn w0 A.ca A.cs
  cn : A.ca = none → A.cc = 0
  cl : A.cs.length * 8 ≤ 140737488351232
  ai : inI A.at'
/-- The blocks that a step begins with. -/
theorem sb_start {w0 w V : World} {X : Nat → Prop} {p aa bb q : Nat} {d : Dev} {K : Nat} {J : Jr} {rv ev : Value} {x : RD} {ra : Option Addr} {rc : Nat} {ea : Option Addr} {ec : Nat} {a : Ar} {c ar ac z : Array Value}
    (h : Wd w0 w X p aa bb q d K J rv ev x ra rc ea ec a) (hb : Below w.heap.size w V) (h1 : V.heap[w.heap.size]? = some (.cells c 49 (0, 0))) (h2 : V.heap[w.heap.size + 1]? = some (.cells ar 36 (0, 0))) (h3 : V.heap[w.heap.size + 1 + 1]? = some (.cells ac 55 (0, 0))) (h4 : V.heap[w.heap.size + 1 + 1 + 1]? = some (.cells z 49 (0, 0))) :
    SB w0 w (fun k => X k ∨ (w.heap.size ≤ k ∧ k < V.heap.size)) (Mine p aa bb q rv ev) V p aa bb q d K J rv ev ra rc x.l ea ec J.ends c ar ac z := by
  have h5 := blk_lt h4
  refine ⟨h.jn.on hb, fun k hk hx => ?_, fun k q1 q2 => .inr ⟨q1, by omega⟩, fun k hk => ?_, h.ls.on hb, ⟨fun i hi => ?_, h.ed.cap⟩, h1, h2, h3, h4, Ext.of_below _ hb, below_step h.bw hb, h.bw.size⟩
  · have := (h.jn.mine k hk).2
    rcases hx with m | m
    · exact h.off k hk m
    · omega
  · rcases hk with m | m
    · have := h.lt k m
      have := hb.size
      omega
    · exact m.2
  · obtain ⟨b, o, e, q1, q2⟩ := h.ed.ends i hi
    have hl := block_lt_of_cell q1
    refine ⟨b, o, e, (hb.cell hl).trans q1, fun m => ?_⟩
    rcases m with m | m | m
    · exact q2 (.inl m)
    · exact q2 (.inr m)
    · have : b < w.heap.size := hl
      omega
theorem mine_at {w : World} {N : Nat} {v : Value} {xs : List Nat} (h : Own w N v xs) : ∃ a c, v = .slice a xs.length c ∧ BytesIn w a xs ∧ (a = none → c = 0) ∧ ∀ b o, a = some ⟨b, o, none⟩ → N ≤ b := by
  obtain ⟨a, c, e, hb, hn⟩ := h.bytes
  refine ⟨a, c, e, hb, hn, fun b o ea => ?_⟩
  rw [e, ea] at h
  exact (World.ownsRow.lt h b rfl).1
end Go.Proofs.YtjnhcanohefjiaaGreatDoor
