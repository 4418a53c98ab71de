/- What the laws' walks share: the callees' contracts over worlds behind the law's first one. -/
import Derived.Test.YtlldamgnfaikhaaDoorRwEnc
import Derived.Test.YtlldamgnfaikhaaDoorRwKey
import Derived.Test.YtlldamgnfaikhaaDoorRwVals
import Derived.Test.YtlldamgnfaikhaaDoorRwTwin
import Derived.Test.YtlldamgnfaikhaaDoorRwSure
import Derived.BigQuiet
namespace Go.Proofs.YtlldamgnfaikhaaDoor
open Go.RowKit Go.Sort

/-- The law's table lies in its block, and all that was there is there. -/
def TabAt (B : Nat) (nm : ByteArray) (at_ : Option Addr) (C ct : Nat) (W1 V : World) : Prop :=
  (V.cell? ⟨B, 0, none⟩ = some (.string nm) ∧ V.cell? ⟨B, 1, none⟩ = some (.slice at_ C ct)) ∧ Below W1.heap.size W1 V
theorem TabAt.on {B : Nat} {nm : ByteArray} {at_ : Option Addr} {C ct : Nat} {W1 V V' : World} (h : TabAt B nm at_ C ct W1 V) (hb : Below V.heap.size V V') : TabAt B nm at_ C ct W1 V' :=
  ⟨InT.on h.1 hb, below_step h.2 hb⟩
/-- Encode's answer, as bytes that lie there. -/
def EncAt (V : World) (xl : Nat) (XB : List Nat) (EV : Value) (e : Ending) (w' : World) : Prop :=
  ∃ a1 c1, e = .returned (.tuple #[.slice a1 xl c1, EV]) ∧ BytesIn w' a1 XB ∧ Below V.heap.size V w'
/-- A twin. -/
def TwinAt (V : World) (L : Nat) (xs : List Val) (e : Ending) (w' : World) : Prop :=
  ∃ a' c', e = .returned (.slice a' L c') ∧ ValsIn w' a' xs ∧ Below V.heap.size V w'
theorem twinAt {a : Option Addr} {c : Nat} {xs : List Val} {W1 V : World} (h : ValsIn W1 a xs) (hx : xs.length ≤ 1048576) (hn : a = none → c = 0) (hb : Below W1.heap.size W1 V) : Calls Tryd.prog 7 #[.slice a xs.length c] V (TwinAt V xs.length xs) :=
  (twin_ a c xs V (h.on hb) (by omega) hn).mono fun e w' ⟨a', c', he, hi, _, hb⟩ => ⟨a', c', he, hi, hb⟩
theorem encAt {nm : ByteArray} {at_ : Option Addr} {ct : Nat} {cs : List Col} {a' : Option Addr} {c' : Nat} {xs : List Val} {W1 V : World} (hc : ColsIn W1 at_ cs) (hb : Below W1.heap.size W1 V) (h : ValsIn V a' xs) (hw : ∀ x ∈ xs, inI x.n) (hcl : cs.length ≤ 1048576) (hwt : wtV xs ≤ 1048576) :
    Calls Tryd.prog 6 #[.agg #[.string nm, .slice at_ cs.length ct], .slice a' xs.length c'] V (EncAt V (if chkR cs xs = 0 then rowB xs else []).length (if chkR cs xs = 0 then rowB xs else []) (errV 57 (chkR cs xs))) :=
  (rencode_ nm at_ ct cs a' c' xs V (hc.on hb) h hw hcl hwt).mono fun e w' ⟨v, he, ho, hb⟩ => by
    obtain ⟨a1, c1, rfl, hin, _⟩ := ho.bytes
    exact ⟨a1, c1, he, hin, hb⟩
theorem errV_cases (e : Int) : (e = 0 ∧ errV 57 e = .nilIface) ∨ (e ≠ 0 ∧ errV 57 e = .iface 57 (.int .i64 e)) := by
  by_cases h : e = 0
  · exact .inl ⟨h, by rw [errV, if_pos h]⟩
  · exact .inr ⟨h, by rw [errV, if_neg h]⟩
theorem size_of_toArray (l : List UInt8) : (⟨l.toArray⟩ : ByteArray).toList = l := by rw [Lib.toList_data]
/-- Texts of keys are the same just where the keys are. -/
theorem keys_same {cs : List Col} {xs ys : List Val} (hx : kErr cs xs = 0) (hy : kErr cs ys = 0) (hnx : ∀ v ∈ xs, inI v.n) (hny : ∀ v ∈ ys, inI v.n) : ((⟨(kTxt cs xs).toArray⟩ : ByteArray).toList == (⟨(kTxt cs ys).toArray⟩ : ByteArray).toList) = true ↔ keyV cs xs = keyV cs ys := by
  have z : ∀ zs : List Val, kErr cs zs = 0 → chkR cs zs = 0 ∧ errL (keyV cs zs) = 0 := by
    intro zs h
    unfold kErr at h
    split at h
    · rename_i h0; exact absurd h h0
    · rename_i h0; exact ⟨by simpa using h0, h⟩
  obtain ⟨x0, x1⟩ := z xs hx
  obtain ⟨y0, y1⟩ := z ys hy
  have lx := (chkR_zero x0).1
  have ly := (chkR_zero y0).1
  rw [kTxt, kTxt, if_neg (by simp [x0]), if_neg (by simp [y0]), txtL, txtL, if_pos x1, if_pos y1, size_of_toArray, size_of_toArray, beq_iff_eq]
  constructor
  · intro h
    exact enc_inj (fun v hv => ⟨chkR_valid x0 v (keyV_mem lx hv), hnx v (keyV_mem lx hv)⟩) (fun v hv => ⟨chkR_valid y0 v (keyV_mem ly hv), hny v (keyV_mem ly hv)⟩) h
  · intro h; rw [h]
theorem rows_same {cs : List Col} {xs ys : List Val} (hx : chkR cs xs = 0) (hy : chkR cs ys = 0) (hnx : ∀ v ∈ xs, inI v.n) (hny : ∀ v ∈ ys, inI v.n) : ((bs (rowB xs)).toList == (bs (rowB ys)).toList) = true ↔ xs = ys := by
  obtain ⟨lx, zx⟩ := chkR_zero hx
  obtain ⟨ly, zy⟩ := chkR_zero hy
  rw [beq_iff_eq]
  constructor
  · intro h
    have h2 : bs (rowB xs) = bs (rowB ys) := toList_inj h
    exact row_inj cs xs ys lx ly zx zy hnx hny (bs_inj (rowB_byte xs) (rowB_byte ys) h2)
  · intro h; rw [h]
end Go.Proofs.YtlldamgnfaikhaaDoor
