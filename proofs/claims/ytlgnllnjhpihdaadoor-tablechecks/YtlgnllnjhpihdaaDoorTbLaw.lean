/- What the laws' walks share: the callees' contracts over worlds behind the law's first one. -/
import Derived.Test.YtlgnllnjhpihdaaDoorTbSure
import Derived.Test.YtlgnllnjhpihdaaDoorTbTwin
import Derived.Test.YtlgnllnjhpihdaaDoorTbSame
import Derived.Deep.RegionHeld3
import Derived.BigQuiet
namespace Go.Proofs.YtlgnllnjhpihdaaDoor
open Go.RowKit Go.Sort

/-- The law's table lies in its block, and all that was there is there. -/
def TabAt (B : Nat) (nm : ByteArray) (at_ : Option Addr) (C ct : Nat) (W1 V : World) : Prop :=
  (V.cell? ⟨B, 0, none⟩ = some (.string nm) ∧ V.cell? ⟨B, 1, none⟩ = some (.slice at_ C ct)) ∧ Below W1.heap.size W1 V
theorem TabAt.on {B : Nat} {nm : ByteArray} {at_ : Option Addr} {C ct : Nat} {W1 V V' : World} (h : TabAt B nm at_ C ct W1 V) (hb : Below V.heap.size V V') : TabAt B nm at_ C ct W1 V' :=
  ⟨InT.on h.1 hb, below_step h.2 hb⟩
/-- A twin. -/
def TwinAt (V : World) (nm : ByteArray) (cs : List Col) (L : Nat) (e : Ending) (w' : World) : Prop :=
  ∃ a' c', e = .returned (.agg #[.string nm, .slice a' L c']) ∧ (ColsIn w' a' cs ∧ L ≤ c') ∧ Below V.heap.size V w'
theorem twinAt {nm : ByteArray} {a : Option Addr} {c : Nat} {cs : List Col} {W1 V : World} (h : ColsIn W1 a cs) (hn : a = none → c = 0) (hl : cs.length * 32 ≤ 140737488355328) (hb : Below W1.heap.size W1 V) : Calls Tryd.prog 7 #[.agg #[.string nm, .slice a cs.length c]] V (TwinAt V nm cs cs.length) :=
  (twin_ nm a c cs V (h.on hb) hn hl).mono fun _ _ ⟨a', c', he, hi, h1, _, _, hb⟩ => ⟨a', c', he, ⟨hi, h1⟩, hb⟩
theorem errV_cases (e : Int) : (e = 0 ∧ errV 63 e = .nilIface) ∨ (e ≠ 0 ∧ errV 63 e = .iface 63 (.int .i64 e)) := by
  by_cases h : e = 0
  · exact .inl ⟨h, by rw [errV, if_pos h]⟩
  · exact .inr ⟨h, by rw [errV, if_neg h]⟩
/-- What is read is a table of that text, or none. -/
theorem prs_cases (s : List UInt8) : (prsE s = 0 ∧ IsText (prsT s) s) ∨ (prsE s = 3 ∧ prsT s = ⟨⟨#[]⟩, []⟩) := by
  cases h : isT s (gPro s) with
  | true => exact .inl ⟨by rw [prsE, if_pos h], by rw [prsT, if_pos h]; exact isT_iff.1 h⟩
  | false => exact .inr ⟨by rw [prsE, if_neg (by rw [h]; decide)], by rw [prsT, if_neg (by rw [h]; decide)]⟩
theorem prs_text {t : Tab} {s : List UInt8} (h : IsText t s) : prsE s = 0 ∧ prsT s = t := by
  have h2 : gPro s = t := isText_pro h
  have h3 : isT s (gPro s) = true := by rw [h2]; exact isT_iff.2 h
  exact ⟨by rw [prsE, if_pos h3], by rw [prsT, if_pos h3, h2]⟩
theorem prs_no {s : List UInt8} (h : ∀ t, ¬ IsText t s) : prsE s = 3 ∧ prsT s = ⟨⟨#[]⟩, []⟩ := by
  rcases prs_cases s with ⟨_, h1⟩ | h1
  · exact absurd h1 (h _)
  · exact h1
theorem txtT_len {t : Tab} (h : RightT t) : (txtT t).length ≤ 1000 := by
  have h1 := (name_ok h.nm).2.1
  have h2 := join_len t.cs h.cols
  have h3 := h.len
  unfold txtT
  simp only [List.length_append, List.length_cons, List.length_nil, headW]
  omega
/-- What Parse hands back, as the laws need it. -/
def ReadAt (V : World) (pn : ByteArray) (pc : List Col) (pl : Nat) (PE : Value) (e : Ending) (w' : World) : Prop :=
  ∃ a c, e = .returned (.tuple #[.agg #[.string pn, .slice a pl c], PE]) ∧ (ColsIn w' a pc ∧ pl ≤ c) ∧ Below V.heap.size V w'
theorem readAt {s : ByteArray} {V : World} (hs : s.size < 4294967281) (hm : MaxAt V) : Calls Tryd.prog 21 #[.string s] V (ReadAt V (prsT (lst s)).nm (prsT (lst s)).cs (prsT (lst s)).cs.length (errV 63 (prsE (lst s)))) := by
  refine (parse_ s V hs hm).mono ?_
  rintro e w' ⟨a, n, c, he, rfl, hc, hn, _, _, hb⟩
  exact ⟨a, c, he, ⟨hc, hn⟩, hb⟩
end Go.Proofs.YtlgnllnjhpihdaaDoor
