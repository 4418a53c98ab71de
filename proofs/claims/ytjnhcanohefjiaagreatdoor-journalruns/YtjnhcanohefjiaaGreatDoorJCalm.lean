/- A journal that is alive on a device at rest, plainly: what is laid behind, flushed, begun anew, opened again. -/
import Derived.Test.YtjnhcanohefjiaaGreatDoorJFlush
namespace Go.Proofs.YtjnhcanohefjiaaGreatDoor
open Go.RowKit Go.Sort Go.Maps

structure Calm (d : Dev) (J : Jr) : Prop where
  ok : okD d
  pend : d.pend = []
  cr : d.crashed = false
  inn : inJ d J.a
  lies : Lies d J.a (allB J.ep (J.pss.take J.sf))
  alive : J.dead = 0
theorem app_keeps (J : Jr) (xs : List Nat) : (appJ J xs).a = J.a ∧ (appJ J xs).ep = J.ep ∧ (appJ J xs).sf = J.sf ∧ (appJ J xs).dead = J.dead ∧ (appJ J xs).pss = if appE J xs = 0 then J.pss ++ [xs] else J.pss := by
  unfold appJ
  split <;> exact ⟨rfl, rfl, rfl, rfl, rfl⟩
theorem Calm.append {d : Dev} {J : Jr} (h : Calm d J) (hs : J.sf ≤ J.pss.length) (xs : List Nat) : Calm d (appJ J xs) := by
  obtain ⟨a1, a2, a3, a4, a5⟩ := app_keeps J xs
  refine ⟨h.ok, h.pend, h.cr, by rw [a1]; exact h.inn, ?_, a4.trans h.alive⟩
  rw [a1, a2, a3, a5]
  split
  · rw [List.take_append_of_le_length hs]; exact h.lies
  · exact h.lies
theorem flush_none {d : Dev} {J : Jr} (h : J.sf = J.pss.length) : flushD d J = d ∧ flushJ d J = J ∧ flushE d J = J.dead := by
  unfold flushD flushJ flushE
  by_cases hd : J.dead ≠ 0
  · simp only [if_pos hd]
    exact ⟨trivial, trivial, trivial⟩
  · simp only [if_neg hd, if_pos h]
    exact ⟨trivial, trivial, by simpa using (Eq.symm (by simpa using hd))⟩
theorem flush_some {d : Dev} {J : Jr} (hd : J.dead = 0) (h : J.sf ≠ J.pss.length) : flushD d J = wrtD J.a J.row (J.upto J.sf) d ∧ flushE d J = wrtE J.a J.row (J.upto J.sf) d ∧ flushJ d J = (if wrtE J.a J.row (J.upto J.sf) d = 0 then { J with sf := J.pss.length } else { J with dead := wrtE J.a J.row (J.upto J.sf) d }) := by
  have hd' : ¬ J.dead ≠ 0 := fun e => e hd
  unfold flushD flushJ flushE
  simp only [if_neg hd', if_neg h]
  exact ⟨trivial, trivial, trivial⟩
theorem Calm.row {d : Dev} {J : Jr} (h : Calm d J) : Lies d J.a (J.row.take (J.upto J.sf)) := by rw [upto_take]; exact h.lies
/-- A Flush that goes well. -/
theorem Calm.flush {d : Dev} {J : Jr} (h : Calm d J) (hj : okJ J) (he : flushE d J = 0) : Calm (flushD d J) (flushJ d J) ∧ flushJ d J = { J with sf := J.pss.length } := by
  by_cases hs : J.sf = J.pss.length
  · obtain ⟨f1, f2, _⟩ := flush_none (d := d) hs
    rw [f1, f2]
    refine ⟨h, ?_⟩
    rw [← hs]
  · obtain ⟨f1, f2, f3⟩ := flush_some (d := d) h.alive hs
    rw [f2] at he
    rw [f1, f3, if_pos he]
    have hlt := upto_lt (J := J) (n := J.sf) (by have := hj.sf; omega)
    obtain ⟨g1, g2, g3, g4, g5, g6⟩ := wrt_good h.ok h.pend h.cr h.inn hj.byte hlt hj.len h.row he
    refine ⟨⟨g3, g1, g2, ?_, ?_, h.alive⟩, rfl⟩
    · show inJ (wrtD J.a J.row (J.upto J.sf) d) J.a
      unfold inJ
      rw [g5, g6]
      exact h.inn
    · show Lies _ J.a (allB J.ep (J.pss.take J.pss.length))
      rw [List.take_length]
      exact g4
theorem Calm.flush_calm {d : Dev} {J : Jr} (h : Calm d J) (hj : okJ J) (ha : d.armed = false) : flushE d J = 0 ∧ (flushD d J).armed = false := by
  by_cases hs : J.sf = J.pss.length
  · obtain ⟨f1, f2, f3⟩ := flush_none (d := d) hs
    rw [f1, f3]
    exact ⟨h.alive, ha⟩
  · obtain ⟨f1, f2, f3⟩ := flush_some (d := d) h.alive hs
    have hlt := upto_lt (J := J) (n := J.sf) (by have := hj.sf; omega)
    rw [f1, f2]
    exact wrt_calm h.ok h.pend h.cr h.inn hj.byte hlt hj.len ha
/-- A new begin that goes well. -/
theorem Calm.rewind {d : Dev} {J : Jr} (h : Calm d J) (ep : Nat) (he : rewE d J = 0) : Calm (rewD d J) (rewJ d J ep) ∧ rewJ d J ep = ⟨J.a, ep, [], 0, 0⟩ := by
  have hd' : ¬ J.dead ≠ 0 := fun e => e h.alive
  unfold rewE at he
  unfold rewD rewJ
  rw [if_neg hd'] at he
  simp only [if_neg hd', he]
  obtain ⟨g1, g2, g3, g4, g5, g6⟩ := clean_good h.ok h.pend h.cr h.inn (fun x hx => by cases hx) (begins_nil _ _) he
  refine ⟨⟨g3, g1, g2, ?_, g4, rfl⟩, trivial⟩
  unfold inJ
  rw [g5, g6]
  exact h.inn
theorem Calm.rewind_calm {d : Dev} {J : Jr} (h : Calm d J) (ha : d.armed = false) : rewE d J = 0 ∧ (rewD d J).armed = false := by
  have hd' : ¬ J.dead ≠ 0 := fun e => e h.alive
  unfold rewE rewD
  simp only [if_neg hd']
  exact clean_calm h.ok h.pend h.cr h.inn (fun x hx => by cases hx) (begins_nil _ _) ha
/-- A device at rest, opened. -/
structure Rest (d : Dev) (a : Ar) : Prop where
  ok : okD d
  pend : d.pend = []
  cr : d.crashed = false
  arm : d.armed = false
  inn : inJ d a
  lim : 1 ≤ d.r ∧ d.r ≤ 16 ∧ 1 ≤ d.s ∧ d.s ≤ 16384
theorem Rest.opened {d : Dev} {a : Ar} (h : Rest d a) {ep : Nat} (he : ep < 18446744073709551616) : cleanE a (openJ d a ep).row d = 0 ∧ Calm (cleanD a (openJ d a ep).row d) (openJ d a ep) ∧ (cleanD a (openJ d a ep).row d).armed = false := by
  obtain ⟨o1, o2, o3, o4, o5, o6, o7, o8⟩ := open_good h.ok h.pend h.cr h.arm h.inn h.lim he
  refine ⟨o1, ⟨o5, o3, o4, ?_, ?_, rfl⟩, o2⟩
  · show inJ (cleanD a (openJ d a ep).row d) a
    unfold inJ
    rw [o7, o8]
    exact h.inn
  · show Lies _ a (allB ep ((scan ep (heldJ d a)).1.take (scan ep (heldJ d a)).1.length))
    rw [List.take_length]
    exact o6
theorem Rest.new (r s : Int) (hl : 1 ≤ r ∧ r ≤ 16 ∧ 1 ≤ s ∧ s ≤ 16384) (a : Ar) (hin : inJ (newD r s) a) : Rest (newD r s) a := ⟨okD_new r s, rfl, rfl, rfl, hin, hl⟩
theorem Rest.restart {d : Dev} {a : Ar} (hok : okD d) (hin : inJ d a) (hl : 1 ≤ d.r ∧ d.r ≤ 16 ∧ 1 ≤ d.s ∧ d.s ≤ 16384) (ns : List Int) : Rest (restartD d ns) a := ⟨okD_restart' hok ns, rfl, rfl, rfl, hin, hl⟩
/-- A journal behind a restart: what was flushed is told. -/
theorem Calm.told {d : Dev} {J : Jr} (h : Calm d J) (hj : okJ J) (ns : List Int) : (openJ (restartD d ns) J.a J.ep).pss = J.pss.take J.sf := by
  have hl : (allB J.ep (J.pss.take J.sf)).length ≤ 64 * J.a.s.toNat := Nat.le_trans (upto_le J J.sf) hj.len
  show (scan J.ep (heldJ (restartD d ns) J.a)).1 = _
  rw [scan_lies (okD_restart' h.ok ns) hj.ep (fun p hp => hj.pays p (List.mem_of_mem_take hp)) hl (lies_restart h.pend h.lies ns)]
/-- The same without a restart. -/
theorem Calm.seen {d : Dev} {J : Jr} (h : Calm d J) (hj : okJ J) : (openJ d J.a J.ep).pss = J.pss.take J.sf := by
  have hl : (allB J.ep (J.pss.take J.sf)).length ≤ 64 * J.a.s.toNat := Nat.le_trans (upto_le J J.sf) hj.len
  show (scan J.ep (heldJ d J.a)).1 = _
  rw [scan_lies h.ok hj.ep (fun p hp => hj.pays p (List.mem_of_mem_take hp)) hl h.lies]
theorem new_held (r s : Int) (a : Ar) : heldJ (newD r s) a = List.replicate (64 * a.s.toNat) 0 := by
  have hl : Lies (newD r s) a [] := fun i _ => by simp [partJ, fillC, readD, newD, getP, zeroC]
  rw [lies_held (okD_new r s) hl (by simp)]
  simp
theorem open_new (r s : Int) (a : Ar) (ep : Nat) : openJ (newD r s) a ep = ⟨a, ep, [], 0, 0⟩ := by
  unfold openJ
  rw [new_held, scan_stop ep _ (one_zeros ep _)]
  rfl
/-- Whatever a crash of a Flush leaves: what was flushed is told. -/
theorem Calm.crash {d : Dev} {J : Jr} (h : Calm d J) (hj : okJ J) (ns : List Int) : okD (restartD (flushD d J) ns) ∧ (restartD (flushD d J) ns).r = d.r ∧ (restartD (flushD d J) ns).s = d.s ∧ J.sf ≤ (openJ (restartD (flushD d J) ns) J.a J.ep).pss.length := by
  by_cases hs : J.sf = J.pss.length
  · obtain ⟨f1, _, _⟩ := flush_none (d := d) hs
    rw [f1]
    refine ⟨okD_restart' h.ok ns, rfl, rfl, ?_⟩
    rw [h.told hj ns, List.length_take]
    have := hj.sf
    omega
  · obtain ⟨f1, _, _⟩ := flush_some (d := d) h.alive hs
    have hlt := upto_lt (J := J) (n := J.sf) (by have := hj.sf; omega)
    obtain ⟨c1, c2, c3, c4⟩ := wrt_crash h.ok h.pend h.cr h.inn hj.byte hlt hj.len h.row ns
    rw [f1]
    refine ⟨c1, c2, c3, ?_⟩
    rw [upto_take] at c4
    have e : heldJ (restartD (wrtD J.a J.row (J.upto J.sf) d) ns) J.a = allB J.ep (J.pss.take J.sf) ++ (heldJ (restartD (wrtD J.a J.row (J.upto J.sf) d) ns) J.a).drop (J.upto J.sf) := by rw [← c4, List.take_append_drop]
    show J.sf ≤ (scan J.ep (heldJ (restartD (wrtD J.a J.row (J.upto J.sf) d) ns) J.a)).1.length
    rw [e, scan_more J.ep hj.ep _ (fun x hx => held_byte c1 _ x (List.mem_of_mem_drop hx)) _ (fun p hp => hj.pays p (List.mem_of_mem_take hp))]
    simp only [List.length_append, List.length_take]
    have := hj.sf
    omega
end Go.Proofs.YtjnhcanohefjiaaGreatDoor
