/- Plain facts: one key, written commit by commit; what is done, among the arguments. -/
import Derived.Test.YtagamkahfiackaaGreatDoorVnSure
namespace Go.Proofs.YtagamkahfiackaaGreatDoor
open Go.RowKit Go.Sort

/-- Something that is done. -/
structure ActV where
  kd : Int
  tm : Int
  key : ByteArray
  row : ByteArray
  gn : Bool
/-- What is done, behind a slice. -/
def ActsIn (w : World) (a : Option Addr) (L : List ActV) : Prop := ∀ i x, L[i]? = some x → ∃ b o, a = some ⟨b, o, none⟩ ∧ b < w.heap.size ∧ w.cell? ⟨b, o + i * 5, none⟩ = some (.int .i64 x.kd) ∧ w.cell? ⟨b, o + i * 5 + 1, none⟩ = some (.int .i64 x.tm) ∧ w.cell? ⟨b, o + i * 5 + 2, none⟩ = some (.string x.key) ∧ w.cell? ⟨b, o + i * 5 + 3, none⟩ = some (.string x.row) ∧ w.cell? ⟨b, o + i * 5 + 4, none⟩ = some (.bool x.gn)
theorem ActsIn.on {w w' : World} {a : Option Addr} {L : List ActV} (h : ActsIn w a L) (hb : Below w.heap.size w w') : ActsIn w' a L := fun i x hi => by
  obtain ⟨b, o, e, h0, h1, h2, h3, h4, h5⟩ := h i x hi
  exact ⟨b, o, e, Nat.lt_of_lt_of_le h0 hb.size, (hb.cell (p := ⟨b, o + i * 5, none⟩) h0).trans h1, (hb.cell (p := ⟨b, o + i * 5 + 1, none⟩) h0).trans h2, (hb.cell (p := ⟨b, o + i * 5 + 2, none⟩) h0).trans h3, (hb.cell (p := ⟨b, o + i * 5 + 3, none⟩) h0).trans h4, (hb.cell (p := ⟨b, o + i * 5 + 4, none⟩) h0).trans h5⟩
def kK : ByteArray := ⟨#[107]⟩
def kJ : ByteArray := ⟨#[106]⟩
def txA (x : ActV) : ByteArray := if x.gn then ⟨#[]⟩ else x.row
def pvT (L : List ActV) (i : Nat) : PV := match L[i]? with
  | some x => ⟨2 * ((i : Int) + 1), txA x, x.gn⟩
  | none => ⟨2 * ((i : Int) + 1), ⟨#[]⟩, true⟩
def tK (L : List ActV) (i : Nat) : List PV := (List.range i).map (pvT L)
def mK (L : List ActV) : Nat → List Ct
  | 0 => []
  | i + 1 => putM kK (pvT L i) (mK L i)
theorem pvT_cm (L : List ActV) (i : Nat) : (pvT L i).cm = 2 * ((i : Int) + 1) := by unfold pvT; split <;> rfl
theorem tK_succ (L : List ActV) (i : Nat) : tK L (i + 1) = tK L i ++ [pvT L i] := by simp [tK, List.range_succ]
theorem tK_len (L : List ActV) (i : Nat) : (tK L i).length = i := by simp [tK]
theorem last_tK (L : List ActV) (i : Nat) : lastC (tK L i) = 2 * (i : Int) := by
  cases i with
  | zero => rfl
  | succ i => rw [tK_succ, last_snoc, pvT_cm]; omega
theorem mem_tK {L : List ActV} {n : Nat} {v : PV} (h : v ∈ tK L n) : ∃ i, i < n ∧ v = pvT L i := by
  obtain ⟨i, hi, rfl⟩ := List.mem_map.1 h
  exact ⟨i, List.mem_range.1 hi, rfl⟩
theorem ch_mK (L : List ActV) : ∀ i, chM kK (mK L i) = tK L i
  | 0 => rfl
  | i + 1 => by
    unfold mK
    rw [ch_put, ch_mK L i, tK_succ]
    unfold withC
    rw [if_neg (by rw [last_tK, pvT_cm]; omega)]
theorem mK_ok (L : List ActV) : ∀ i, OkM (mK L i)
  | 0 => ok_nil
  | i + 1 => (mK_ok L i).put (by rw [pvT_cm]; omega) (by rw [ch_mK, last_tK, pvT_cm]; omega)
theorem mK_eq (L : List ActV) : ∀ i, mK L (i + 1) = [(kK, tK L (i + 1))]
  | 0 => by
    have hc : chM kK (putM kK (pvT L 0) []) = tK L 1 := ch_mK L 1
    show putM kK (pvT L 0) [] = _
    unfold putM at hc ⊢
    have h2 : chM kK (ins kK (withC (chM kK []) (pvT L 0)) []) = withC (chM kK []) (pvT L 0) := by
      show (get kK (ins kK (withC (chM kK []) (pvT L 0)) [])).getD [] = _
      rw [get_ins]; rfl
    rw [← h2, hc]
    rfl
  | i + 1 => by
    have e : mK L (i + 1 + 1) = putM kK (pvT L (i + 1)) (mK L (i + 1)) := rfl
    have hc := ch_mK L (i + 1 + 1)
    rw [e] at hc ⊢
    unfold putM at hc ⊢
    rw [mK_eq L i] at hc ⊢
    unfold chM at hc
    rw [get_ins] at hc
    simp only [Option.getD_some] at hc
    rw [show withC (chM kK [(kK, tK L (i + 1))]) (pvT L (i + 1)) = tK L (i + 1 + 1) from hc]
    simp [ins, lo, hi, ltb_irrefl]
theorem nVer_mK (L : List ActV) (i : Nat) : nVer (mK L i) = i := by
  cases i with
  | zero => rfl
  | succ i => rw [mK_eq, nVer_cons, nVer_nil]; simp only [tK_len]
theorem asc_tK (L : List ActV) (i : Nat) : AscC (tK L i) := by rw [← ch_mK]; exact (mK_ok L i).ch kK
theorem chg_one (L : List ActV) (n : Nat) (t : Int) (ht : 0 ≤ t) : chgM (oneR kK) t (mK L n) = decide (t < 2 * (n : Int)) := by
  cases n with
  | zero =>
    have : chgM (oneR kK) t (mK L 0) = false := rfl
    rw [this]
    exact (decide_eq_false (by omega)).symm
  | succ n =>
    rw [mK_eq]
    unfold chgM selM
    have hk : hasR (oneR kK) kK = true := by simp [hasR, behR, ahdR, oneR, sameb_self]
    rw [List.filter_cons_of_pos (by simpa using hk)]
    simp only [List.filter_nil, List.any_cons, List.any_nil, Bool.or_false, last_tK]
theorem chg_other (L : List ActV) (n : Nat) (t : Int) : chgM (oneR kJ) t (mK L n) = false := by
  cases n with
  | zero => rfl
  | succ n =>
    rw [mK_eq]
    unfold chgM selM
    have hk : hasR (oneR kJ) kK = false := by decide +kernel
    rw [List.filter_cons_of_neg (by simp [hk])]
    rfl
theorem as_tK (L : List ActV) (n : Nat) (t : Nat) : asC (tK L n) (t : Int) = if min (t / 2) n = 0 then none else some (pvT L (min (t / 2) n - 1)) := by
  split
  · rename_i h0
    refine as_none fun u hu => ?_
    obtain ⟨i, hi, rfl⟩ := mem_tK hu
    rw [pvT_cm]
    omega
  · rename_i h0
    refine as_of_max (asc_tK L n) (List.mem_map.2 ⟨min (t / 2) n - 1, List.mem_range.2 (by omega), rfl⟩) (by rw [pvT_cm]; omega) fun u hu hut => ?_
    obtain ⟨i, hi, rfl⟩ := mem_tK hu
    rw [pvT_cm] at hut ⊢
    rw [pvT_cm]
    omega
end Go.Proofs.YtagamkahfiackaaGreatDoor
