/- The document's Sync, Restart and Pending, whatever comes. -/
import Derived.Test.YtjnhcanohefjiaaGreatDoorRRest
import Derived.Test.YtjnhcanohefjiaaGreatDoorRWrite2
namespace Go.Proofs.YtjnhcanohefjiaaGreatDoor
open Go.RowKit Go.Sort Go.Maps

theorem rsyncT {w : World} {a : Option Addr} {c : Nat} (x : RD) (d : Dev) (g : Int) (h : LstS w a c x.l) (ht : Tie d x) (hs : 1 ≤ d.s) (hl : x.l.length ≤ 1000) :
    Calls Tryz.prog 60 #[rdV x a c, .int .i64 g] w fun e w' => (∃ a' c', e = .returned (.tuple #[rdV (syncRD x d g) a' c', .int .i64 (sErr d g : Nat)]) ∧ LstS w' a' c' (syncRD x d g).l) ∧ Below w.heap.size w w' := by
  have hhas : hasR x.r x.s (g, 0) = decide (0 ≤ g ∧ g < d.r) := by
    unfold hasR
    rw [ht.r, ht.s]
    by_cases h1 : 0 ≤ g ∧ g < d.r
    · rw [decide_eq_true h1, decide_eq_true ⟨h1.1, h1.2, by show (0 : Int) ≤ 0; omega, by show (0 : Int) < d.s; omega⟩]
    · rw [decide_eq_false h1, decide_eq_false (fun e => h1 ⟨e.1, e.2.1⟩)]
  have hcr := ht.cr
  by_cases h1 : 0 ≤ g ∧ g < d.r
  · rw [decide_eq_true h1] at hhas
    cases h3 : d.crashed
    · have e2 : sErr d g = 0 := by unfold sErr; rw [if_neg (fun e => e h1), if_neg (by rw [h3]; simp)]
      have e1 : syncRD x d g = { x with l := syncR g x.l } := by unfold syncRD; rw [if_pos e2]
      have ev : rdV x a c = .agg #[.int .i64 x.r, .int .i64 x.s, .slice a x.l.length c, .bool false, .bool x.armed, .int .i64 x.left] := by unfold rdV rdC; rw [hcr, h3]
      rw [e1, e2, ev]
      refine (rsync_ok x.r x.s x.left x.armed a x.l.length c x.l g w hhas rfl h.1 hl).mono fun e w' ⟨⟨a', c', he, hls⟩, hb⟩ => ⟨⟨a', c', he.trans ?_, hls⟩, hb⟩
      unfold rdV rdC
      simp [hcr, h3]
    · have e2 : sErr d g = 60 := by unfold sErr; rw [if_neg (fun e => e h1), if_pos h3]
      have e1 : syncRD x d g = x := by unfold syncRD; rw [if_neg (by rw [e2]; decide)]
      have ev : rdV x a c = .agg #[.int .i64 x.r, .int .i64 x.s, .slice a x.l.length c, .bool true, .bool x.armed, .int .i64 x.left] := by unfold rdV rdC; rw [hcr, h3]
      rw [e1, e2, ev]
      exact (rsync_no3 x.r x.s x.left x.armed a x.l.length c g w hhas).mono fun e w' ⟨he, hb⟩ => ⟨⟨a, c, he.trans (by rw [ev]; rfl), h.on hb⟩, hb⟩
  · rw [decide_eq_false h1] at hhas
    have e2 : sErr d g = 1 := by unfold sErr; rw [if_pos h1]
    have e1 : syncRD x d g = x := by unfold syncRD; rw [if_neg (by rw [e2]; decide)]
    rw [e1, e2]
    exact (rsync_no1 x.r x.s x.left x.crashed x.armed a x.l.length c g w hhas).mono fun e w' ⟨he, hb⟩ => ⟨⟨a, c, he, h.on hb⟩, hb⟩
theorem rrestT {w : World} {a : Option Addr} {c : Nat} (x : RD) (d : Dev) (ca : Option Addr) (ns : List Int) (cn cc : Nat) (h : LstS w a c x.l) (ht : Tie d x) (hl : x.l.length ≤ 1000) (hci : IntsIn w ca ns) (hcn : ns.length = cn) :
    Calls Tryz.prog 40 #[rdV x a c, .slice ca cn cc] w fun e w' => (∃ a' c', e = .returned (rdV (restRD x ns) a' c') ∧ LstS w' a' c' (restRD x ns).l) ∧ Below w.heap.size w w' :=
  (rrest0_ x.r x.s x.left x.crashed x.armed a x.l.length c x.l ca ns cn cc w rfl h.1 hl hci hcn (fun y hy => ⟨(ht.ok y hy).1.1, (ht.ok y hy).2.1.1⟩)).mono fun _ _ ⟨⟨a', c', he, hls⟩, hb⟩ => ⟨⟨a', c', he, hls⟩, hb⟩
end Go.Proofs.YtjnhcanohefjiaaGreatDoor
