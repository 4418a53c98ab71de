/- Lists of texts among the arguments opened; how many texts there are at most. -/
import Derived.Test.YtnkdhipeklphaaaHRowT
import Derived.Test.YtnkdhipeklphaaaListsWalk
namespace Go.Proofs.Ytnkdhipeklphaaa
open Go.ChangeShapes Go.WideShapes Go.ChangeAt Go.RowKit

theorem bulk_pos {H : Type} : ∀ d : DataW H, 1 ≤ Rows.uptoBulk d := by
  intro d
  cases d with
  | lit l => cases l <;> simp [Rows.uptoBulk]
  | _ => simp [Rows.uptoBulk]
theorem bulk_length {H : Type} : ∀ l : List (DataW H), l.length ≤ Rows.uptoBulkAll l := by
  intro l
  induction l with
  | nil => simp [Rows.uptoBulkAll]
  | cons d r ih =>
    have := bulk_pos d
    simp only [List.length_cons, Rows.uptoBulkAll]
    omega
theorem bulk_append {H : Type} : ∀ l k : List (DataW H), Rows.uptoBulkAll (l ++ k) = Rows.uptoBulkAll l + Rows.uptoBulkAll k := by
  intro l k
  induction l with
  | nil => simp [Rows.uptoBulkAll]
  | cons d r ih =>
    simp only [List.cons_append, Rows.uptoBulkAll, ih]
    omega
theorem cells23 : Try.prog.cellsOf 23 = 1 := by kernel_rfl
theorem texts_bulk {H : Type} {enc : TypeId × Value → H} {W : World} {fuel : Nat} {cs : List Value} {x : DataW H × List MemPlace} (hf : DataW.trod enc Try.prog W 0 (fun _ => true) true fuel 23 cs = some x)
    {a : Option Addr} {len c : Nat} (hcs : cs = [.slice a len c]) : len ≤ Rows.uptoBulk x.1 := by
  rcases open_strings Try.underlying23 Try.underlying9 cells9 hf with ⟨hcs', hx⟩ | ⟨ad, len', cap, ss, hcs', _, hl, hm, hz, hx, hcell, hws⟩
  · rw [hcs'] at hcs
    simp at hcs
    omega
  · rw [hcs'] at hcs
    simp at hcs
    obtain ⟨_, rfl, _⟩ := hcs
    simp only [if_true] at hz
    rw [hx]
    have := bulk_length (Go.ChangeShapes.strs (H := H) (ss.take len'))
    simp only [Rows.uptoBulk]
    have e : (Go.ChangeShapes.strs (H := H) (ss.take len')).length = len' := by simp [Go.ChangeShapes.strs]; omega
    omega
theorem tot_bulk {H : Type} (ls : Nat → List ByteArray) (D : Nat → DataW H) : ∀ n, (∀ i, i < n → (ls i).length ≤ Rows.uptoBulk (D i)) → tot ls n ≤ Rows.uptoBulkAll ((List.range n).map D)
  | 0, _ => Nat.zero_le _
  | n + 1, h => by
    have h1 := tot_bulk ls D n (fun i hi => h i (by omega))
    have h2 := h n (by omega)
    rw [List.range_succ, List.map_append, bulk_append]
    simp only [List.map_cons, List.map_nil, Rows.uptoBulkAll, tot]
    omega
theorem open_lists {H : Type} {enc : TypeId × Value → H} {W : World} {base : Nat} {v : Value} {d : DataW H} {p : List MemPlace}
    (hv : Value.okWide Try.prog W .any base 22 v) (h : DataW.Trod enc Try.prog W 0 (fun _ => true) true 22 v d p) :
    ∃ (a : Option Addr) (n c : Nat) (f : Nat → Value) (ls : Nat → List ByteArray), v = .slice a n c ∧ LsAt W a n f ∧ LsIn W n f ls ∧ tot ls n ≤ Rows.uptoBulk d := by
  obtain ⟨a, len, cap, rfl⟩ := okWide_slice Try.underlying22 hv
  obtain ⟨fuel, hf⟩ := h
  rcases Deep.open_slice1 Try.underlying22 cells23 hf with ⟨hcs, hx⟩ | ⟨ad, len', cap', m, n, V, D, Pl, hcs, _, hl, hm, hz, hx, hcell⟩
  · simp [Value.cells] at hcs
    obtain ⟨rfl, rfl, rfl⟩ := hcs
    exact ⟨none, 0, 0, fun _ => .nilIface, fun _ => [], rfl, fun i hi => by omega, fun i hi => by omega, Nat.zero_le _⟩
  · simp [Value.cells] at hcs
    obtain ⟨rfl, rfl, rfl⟩ := hcs
    simp only [if_true] at hz
    subst hz
    obtain ⟨ls, hls⟩ := Deep.choose_lt (α := List ByteArray) (n := len) (p := fun i l => ∃ a c, V i = .slice a l.length c ∧ Tx W a l ∧ l.length ≤ c ∧ c ≤ maxLen ∧ (a = none → c = 0)) (fun i hi => by
      obtain ⟨a', l, c, k1, k2⟩ := texts_trod (hcell i (by omega)).2
      simp at k1
      exact ⟨l, a', c, k1, k2⟩)
    refine ⟨some ad, len, m, V, ls, rfl, fun i hi => ?_, hls, ?_⟩
    · have h1 := (hcell i (by omega)).1
      obtain ⟨b, o, sp⟩ := ad
      have hsp : sp = none := by
        have k0 := (hcell 0 (by omega)).1
        rw [show (⟨b, o, sp⟩ : Addr).add 0 = ⟨b, o, sp⟩ from rfl] at k0
        exact plain_addr k0
      subst hsp
      rw [Addr.add_lit] at h1
      exact ⟨b, o, rfl, h1⟩
    · have hd : d = _ := congrArg Prod.fst hx
      rw [hd]
      have := tot_bulk ls D len (fun i hi => by
        obtain ⟨a', c', k1, _⟩ := hls i hi
        exact texts_bulk (hcell i (by omega)).2 (by rw [k1]))
      simp only [Rows.uptoBulk]
      omega
end Go.Proofs.Ytnkdhipeklphaaa
