/- Numbers as bytes, outside any program: what is laid is read as it was; what is read, laid again, are the same bytes; how many bytes there are; How bytes and values lie in memory; a byte, bytes, a value appended to a row of one's own; What the laws' rows share: values, texts and numbers among the arguments opened; as many as a machine has room for; What Go's bits.Len64 does: the library's own contract, laid at this program's numbers. -/
import Derived.Lib.BitFns
import Derived.Test.YtalmanfjiblhcaaGreatJ1
import Derived.OwnWalk
import Derived.Laws.BytesArg
import Derived.Lib.AppendStr
import Derived.Lib.SlBytesConst
import Derived.Lib.SliceRun
import Derived.Deep.AppendLies
import Derived.Test.YtalmanfjiblhcaaGreatRows
import Derived.ProofKit
import Derived.OpenShut
import Derived.SizedLaws
import Derived.HandedShaped
import Derived.Carry
import Derived.ChangeSlices
import Derived.Shelf.Vars
import Derived.Deep.Slices
import Derived.Shelf.Strconv.Itoa0
import Derived.Test.YtalmanfjiblhcaaGreatProg
namespace Go.Proofs.YtalmanfjiblhcaaGreat.Rw
def enc (n : Nat) : List Nat := if n < 128 then [n] else (n % 128 + 128) :: enc (n / 128)
 termination_by n
 decreasing_by omega
theorem enc_lt {n : Nat} (h : n < 128) : enc n = [n] := by rw [enc, if_pos h]
theorem enc_ge {n : Nat} (h : 128 ≤ n) : enc n = (n % 128 + 128) :: enc (n / 128) := by rw [enc, if_neg (by omega)]
def dec (acc i : Nat) : List Nat → Nat × Nat × Nat
 | [] => if i = 10 then (0, 0, 3) else (0, 0, 12)
 | y :: ys => if i = 10 then (0, 0, 3) else if 128 ≤ y then dec (acc + (y - 128) * 128 ^ i) (i + 1) ys else if (i ≠ 0 ∧ y = 0) ∨ (i = 9 ∧ 1 < y) then (0, 0, 3) else (acc + y * 128 ^ i, i + 1, 0)
theorem pow9 : (128 : Nat) ^ 9 = 9223372036854775808 := by decide
theorem pow10 : (128 : Nat) ^ 10 = 1180591620717411303424 := by decide
theorem place_lt {i n : Nat} (hn : n * 128 ^ i < 18446744073709551616) (h0 : i ≠ 0 → n ≠ 0) : i < 10 ∧ ¬ (i = 9 ∧ 1 < n) := by
 refine ⟨?_, ?_⟩
 · apply Classical.byContradiction
   intro hc
   have h1 : (128 : Nat) ^ 10 ≤ 128 ^ i := Nat.pow_le_pow_right (by decide) (by omega)
   rw [pow10] at h1
   have h2 : 1 * 128 ^ i ≤ n * 128 ^ i := Nat.mul_le_mul_right _ (by have := h0 (by omega); omega)
   omega
 · rintro ⟨rfl, h⟩
   rw [pow9] at hn
   omega
theorem dec_enc : ∀ (n acc i : Nat) (ys : List Nat), n * 128 ^ i < 18446744073709551616 → (i ≠ 0 → n ≠ 0) → dec acc i (enc n ++ ys) = (acc + n * 128 ^ i, i + (enc n).length, 0) := by
 intro n
 induction n using Nat.strongRecOn with
 | ind n ih =>
   intro acc i ys hn h0
   obtain ⟨h10, h9⟩ := place_lt hn h0
   by_cases hs : n < 128
   · rw [enc_lt hs, List.singleton_append, dec, if_neg (by omega), if_neg (by omega), if_neg (by omega)]
     rfl
   · have e : n = n % 128 + 128 * (n / 128) := (Nat.mod_add_div n 128).symm
     have hp : (128 : Nat) ^ (i + 1) = 128 ^ i * 128 := Nat.pow_succ ..
     have hm : n * 128 ^ i = n % 128 * 128 ^ i + n / 128 * 128 ^ (i + 1) := by
      rw [hp]
      conv => lhs; rw [e, Nat.add_mul]
      congr 1
      rw [Nat.mul_comm (128 ^ i) 128, ← Nat.mul_assoc, Nat.mul_comm 128]
     rw [enc_ge (by omega), List.cons_append, dec, if_neg (by omega), if_pos (by omega), ih (n / 128) (by omega) _ (i + 1) ys (by omega) (by omega), show n % 128 + 128 - 128 = n % 128 by omega]
     simp only [List.length_cons, Prod.mk.injEq, and_true]
     omega
theorem dec_err : ∀ (xs : List Nat) (acc i : Nat), (dec acc i xs).2.2 ≠ 0 → (dec acc i xs).1 = 0 ∧ (dec acc i xs).2.1 = 0 := by
 intro xs
 induction xs with
 | nil => intro acc i _; unfold dec; split <;> exact ⟨rfl, rfl⟩
 | cons y ys ih =>
   intro acc i h
   unfold dec at h ⊢
   split
   · exact ⟨rfl, rfl⟩
   · rename_i h1
     rw [if_neg h1] at h
     split
     · rename_i h2
       rw [if_pos h2] at h
       exact ih _ _ h
     · rename_i h2
       rw [if_neg h2] at h
       split
       · exact ⟨rfl, rfl⟩
       · rename_i h3
         rw [if_neg h3] at h
         exact absurd rfl h
theorem dec_back : ∀ (xs : List Nat) (acc i : Nat), (∀ x ∈ xs, x < 256) → i ≤ 10 → (dec acc i xs).2.2 = 0 →
 ∃ n, (dec acc i xs).1 = acc + n * 128 ^ i ∧ enc n = xs.take ((dec acc i xs).2.1 - i) ∧ i < (dec acc i xs).2.1 ∧ (dec acc i xs).2.1 - i ≤ xs.length ∧ (i ≠ 0 → n ≠ 0) ∧ (n + 1) * 128 ^ i ≤ 18446744073709551616 := by
 intro xs
 induction xs with
 | nil =>
   intro acc i _ _ h
   unfold dec at h
   split at h <;> simp at h
 | cons y ys ih =>
   intro acc i hb hi h
   unfold dec at h ⊢
   split at h
   · simp at h
   · rename_i h1
     rw [if_neg h1]
     split at h
     · rename_i h2
       rw [if_pos h2]
       have hy : y < 256 := hb y (List.mem_cons_self ..)
       obtain ⟨n, e1, e2, e3, e4, e5, e6⟩ := ih (acc + (y - 128) * 128 ^ i) (i + 1) (fun x hx => hb x (List.mem_cons_of_mem _ hx)) (by omega) h
       have hp : (128 : Nat) ^ (i + 1) = 128 ^ i * 128 := Nat.pow_succ ..
       have hn : n ≠ 0 := e5 (by omega)
       generalize (dec (acc + (y - 128) * 128 ^ i) (i + 1) ys) = r at *
       refine ⟨y - 128 + 128 * n, ?_, ?_, by omega, ?_, by omega, ?_⟩
       · rw [e1, hp, Nat.add_mul, Nat.add_assoc, Nat.mul_comm (128 ^ i) 128, ← Nat.mul_assoc, Nat.mul_comm n 128]
       · rw [enc_ge (by omega), show (y - 128 + 128 * n) % 128 + 128 = y by omega, show (y - 128 + 128 * n) / 128 = n by omega, e2, show r.2.1 - i = (r.2.1 - (i + 1)) + 1 by omega, List.take_succ_cons]
       · simp only [List.length_cons]
         omega
       · have h3 : (y - 128 + 128 * n + 1) * 128 ^ i ≤ (128 * (n + 1)) * 128 ^ i := Nat.mul_le_mul_right _ (by omega)
         have h4 : (128 * (n + 1)) * 128 ^ i = (n + 1) * 128 ^ (i + 1) := by rw [hp, Nat.mul_comm 128 (n + 1), Nat.mul_assoc, Nat.mul_comm 128]
         omega
     · rename_i h2
       rw [if_neg h2]
       split at h
       · simp at h
       · rename_i h3
         rw [if_neg h3]
         refine ⟨y, rfl, ?_, by show i < i + 1; omega, ?_, ?_, ?_⟩
         · show enc y = List.take (i + 1 - i) (y :: ys)
           rw [enc_lt (by omega), show i + 1 - i = 1 by omega]
           rfl
         · show i + 1 - i ≤ _
           simp only [List.length_cons]
           omega
         · intro h0 hy
           exact h3 (.inl ⟨h0, hy⟩)
         · by_cases h9 : i = 9
           · subst h9
             rw [pow9]
             have : ¬ 1 < y := fun h => h3 (.inr ⟨rfl, h⟩)
             omega
           · have h5 : (y + 1) * 128 ^ i ≤ 128 * 128 ^ i := Nat.mul_le_mul_right _ (by omega)
             have h6 : 128 * 128 ^ i = (128 : Nat) ^ (i + 1) := by rw [Nat.pow_succ, Nat.mul_comm]
             have h7 : (128 : Nat) ^ (i + 1) ≤ 128 ^ 9 := Nat.pow_le_pow_right (by decide) (by omega)
             rw [pow9] at h7
             omega
def rdU (xs : List Nat) : Nat × Nat × Nat := dec 0 0 xs
theorem rdU_enc (n : Nat) (ys : List Nat) (h : n < 18446744073709551616) : rdU (enc n ++ ys) = (n, (enc n).length, 0) := by
 unfold rdU
 rw [dec_enc n 0 0 ys (by omega) (by omega)]
 simp
theorem rdU_back (xs : List Nat) (hb : ∀ x ∈ xs, x < 256) (h : (rdU xs).2.2 = 0) : enc (rdU xs).1 = xs.take (rdU xs).2.1 ∧ 0 < (rdU xs).2.1 ∧ (rdU xs).2.1 ≤ xs.length ∧ (rdU xs).1 < 18446744073709551616 := by
 obtain ⟨n, e1, e2, e3, e4, _, e6⟩ := dec_back xs 0 0 hb (by omega) h
 unfold rdU
 rw [Nat.pow_zero, Nat.mul_one, Nat.zero_add] at e1
 rw [Nat.pow_zero, Nat.mul_one] at e6
 rw [e1]
 exact ⟨e2, e3, e4, by omega⟩
theorem rdU_err (xs : List Nat) (h : (rdU xs).2.2 ≠ 0) : (rdU xs).1 = 0 ∧ (rdU xs).2.1 = 0 := dec_err xs 0 0 h
theorem rdU_lt (xs : List Nat) (hb : ∀ x ∈ xs, x < 256) : (rdU xs).1 < 18446744073709551616 ∧ (rdU xs).2.1 ≤ xs.length := by
 by_cases h : (rdU xs).2.2 = 0
 · obtain ⟨_, _, h1, h2⟩ := rdU_back xs hb h
   exact ⟨h2, h1⟩
 · obtain ⟨h1, h2⟩ := rdU_err xs h
   rw [h1, h2]
   exact ⟨by decide, Nat.zero_le _⟩
theorem enc_length : ∀ n : Nat, n < 18446744073709551616 → (enc n).length = max 1 ((Lib.bitLen n + 6) / 7) := by
 intro n
 induction n using Nat.strongRecOn with
 | ind n ih =>
   intro hn
   by_cases hs : n < 128
   · rw [enc_lt hs]
     have := Lib.bitLen_le n 7 (by omega) (by omega)
     simp only [List.length_cons, List.length_nil]
     omega
   · have h1 := Lib.bitLen_shift 7 n (by omega) (by omega)
     rw [show (2 : Nat) ^ 7 = 128 from rfl] at h1
     have h2 := Lib.bitLen_half (n / 128) (by omega) (by omega)
     rw [enc_ge (by omega), List.length_cons, ih (n / 128) (by omega) (by omega), h1]
     omega
theorem enc_pos (n : Nat) : 0 < (enc n).length := by
 rw [enc]; split <;> simp
theorem enc_le10 (n : Nat) (h : n < 18446744073709551616) : (enc n).length ≤ 10 := by
 rw [enc_length n h]
 have := Lib.bitLen_le n 64 (by omega) (by omega)
 omega
theorem enc_byte : ∀ n : Nat, ∀ x ∈ enc n, x < 256 := by
 intro n
 induction n using Nat.strongRecOn with
 | ind n ih =>
   intro x hx
   by_cases hs : n < 128
   · rw [enc_lt hs] at hx; simp at hx; omega
   · rw [enc_ge (by omega)] at hx
     rcases List.mem_cons.1 hx with rfl | hx
     · omega
     · exact ih (n / 128) (by omega) x hx
def zz (n : Int) : Nat := if n < 0 then (-2 * n - 1).toNat else (2 * n).toNat
def unzz (v : Nat) : Int := if v % 2 = 1 then -(v / 2 : Nat) - 1 else (v / 2 : Nat)
theorem unzz_zz (n : Int) : unzz (zz n) = n := by
 unfold unzz zz
 split <;> split <;> omega
theorem zz_lt (n : Int) (h0 : -9223372036854775808 ≤ n) (h1 : n ≤ 9223372036854775807) : zz n < 18446744073709551616 := by
 unfold zz
 split <;> omega
def bs (xs : List Nat) : ByteArray := ⟨(xs.map fun n => UInt8.ofNat n).toArray⟩
def sb (s : ByteArray) : List Nat := s.data.toList.map (·.toNat)
theorem bs_sb (s : ByteArray) : bs (sb s) = s := by
 obtain ⟨d⟩ := s
 simp [bs, sb, Function.comp_def]
theorem sb_length (s : ByteArray) : (sb s).length = s.size := by unfold sb; rw [List.length_map, Array.length_toList]; rfl
theorem sb_byte (s : ByteArray) : ∀ x ∈ sb s, x < 256 := by
 intro x hx
 obtain ⟨u, _, rfl⟩ := List.mem_map.1 hx
 exact u.toNat_lt
theorem bs_size (xs : List Nat) : (bs xs).size = xs.length := by simp [bs, ByteArray.size]
end Go.Proofs.YtalmanfjiblhcaaGreat.Rw
namespace Go.Proofs.YtalmanfjiblhcaaGreat.Rw
open Go.RowKit Go.Sort
def ns (l : List UInt8) : List Nat := l.map UInt8.toNat
theorem bs_ns (l : List UInt8) : bs (ns l) = ⟨l.toArray⟩ := by
 unfold bs ns; rw [List.map_map]
 have : (fun n => UInt8.ofNat n) ∘ UInt8.toNat = id := by funext x; simp
 rw [this, List.map_id]
theorem ns_length (l : List UInt8) : (ns l).length = l.length := by simp [ns]
theorem ns_append (a b : List UInt8) : ns a ++ ns b = ns (a ++ b) := by simp [ns]
def vals (xs : List Nat) : List Value := xs.map fun (x : Nat) => .int .u8 (x : Int)
theorem vals_len (xs : List Nat) : (vals xs).length = xs.length := by simp [vals]
theorem vals_append (xs ys : List Nat) : vals xs ++ vals ys = vals (xs ++ ys) := by simp [vals]
theorem vals_one (xs : List Nat) : ∀ u ∈ vals xs, u.oneCell' = true := by
 intro u hu
 obtain ⟨x, _, rfl⟩ := List.mem_map.1 hu
 rfl
theorem vals_get (xs : List Nat) (i : Nat) (h : i < xs.length) : (vals xs)[i]? = some (.int .u8 (xs.getD i 0 : Nat)) := by
 simp [vals, List.getElem?_map, List.getElem?_eq_getElem h, List.getD_eq_getElem?_getD]
def BytesIn (w : World) (a : Option Addr) (xs : List Nat) : Prop :=
 ∀ i, i < xs.length → ∃ b o, a = some ⟨b, o, none⟩ ∧ w.cell? ⟨b, o + i, none⟩ = some (.int .u8 (xs.getD i 0 : Nat))
theorem BytesIn.on {w w' : World} {a : Option Addr} {xs : List Nat} (h : BytesIn w a xs) (hb : Below w.heap.size w w') : BytesIn w' a xs := by
 intro i hi
 obtain ⟨b, o, e, h1⟩ := h i hi
 exact ⟨b, o, e, (hb.cell (block_lt_of_cell h1)).trans h1⟩
theorem bytesIn_nil (w : World) (a : Option Addr) : BytesIn w a [] := fun i hi => by simp at hi
theorem BytesIn.news {w : World} {ad : Addr} {xs : List Nat} (h : BytesIn w (some ad) xs) : ∀ j u, (vals xs)[j]? = some u → w.cell? (ad.add j) = some u := by
 intro j u hj
 have hl : j < xs.length := by
  rcases Nat.lt_or_ge j xs.length with h | h
  · exact h
  · rw [List.getElem?_eq_none (by rw [vals_len]; exact h)] at hj; cases hj
 obtain ⟨b, o, e, h1⟩ := h j hl
 cases e
 rw [vals_get xs j hl] at hj
 cases hj
 rw [Addr.add_lit]
 exact h1
def Own (w : World) (base : Nat) (v : Value) (xs : List Nat) : Prop := w.ownsRow base 5 1 v xs.length (vals xs)
theorem Own.bytes {w : World} {base : Nat} {v : Value} {xs : List Nat} (h : Own w base v xs) : ∃ a c, v = .slice a xs.length c ∧ BytesIn w a xs ∧ (a = none → c = 0) := by
 rcases h.2 with ⟨rfl, e⟩ | ⟨g, cap, cur, rfl, _, _, _, _, _, _⟩
 · have : xs = [] := List.eq_nil_of_length_eq_zero e
   subst this
   exact ⟨none, 0, rfl, bytesIn_nil _ _, fun _ => rfl⟩
 · refine ⟨_, _, rfl, fun i hi => ⟨g, 0, rfl, ?_⟩, fun hh => by cases hh⟩
   have := World.ownsRow.cellAt h i (by omega)
   rw [Nat.zero_add, this, vals_get xs i hi]
theorem Own.cells {w : World} {base g n c : Nat} {xs : List Nat} (h : Own w base (.slice (some ⟨g, 0, none⟩) n c) xs) : n = xs.length ∧ BytesIn w (some ⟨g, 0, none⟩) xs ∧ base ≤ g ∧ g < w.heap.size := by
 obtain ⟨a, c', e, hb, _⟩ := h.bytes
 simp only [Value.slice.injEq] at e
 obtain ⟨rfl, rfl, rfl⟩ := e
 obtain ⟨h1, h2⟩ := World.ownsRow.lt h g rfl
 exact ⟨rfl, hb, h1, h2⟩
theorem Own.on {w w' : World} {base : Nat} {v : Value} {xs : List Nat} (h : Own w base v xs) (hb : Below w.heap.size w w') : Own w' base v xs := by
 refine ⟨h.1, ?_⟩
 rcases h.2 with h1 | ⟨g, cap, cur, e, h1, h2, h3, h4, h5, h6⟩
 · exact .inl h1
 · have hlt : g < w.heap.size := by
    rcases Nat.lt_or_ge g w.heap.size with hl | hl
    · exact hl
    · rw [Array.getElem?_eq_none hl] at h2; cases h2
   exact .inr ⟨g, cap, cur, e, h1, (hb.block g hlt).trans h2, h3, h4, h5, h6⟩
theorem Own.lower {w : World} {base base' : Nat} {v : Value} {xs : List Nat} (h : Own w base v xs) (hb : base' ≤ base) : Own w base' v xs := by
 refine ⟨h.1, ?_⟩
 rcases h.2 with h1 | ⟨g, cap, cur, e, h1, h2, h3, h4, h5, h6⟩
 · exact .inl h1
 · exact .inr ⟨g, cap, cur, e, Nat.le_trans hb h1, h2, h3, h4, h5, h6⟩
theorem infoB : (Tryz.prog.info? 5).map (fun i => (i.zero, i.size, i.bytes)) = some (some (.int .u8 0), 1, 1) := by kernel_rfl
theorem conv_ (w : World) (a : Option Addr) (n c : Nat) (xs : List Nat) (hn : n = xs.length) (h : BytesIn w a xs) : (convert 79 9 (.slice a n c)).run Tryz.prog w = .ok (.string (bs xs)) w := by
 have e : strOfNums (xs.map fun (x : Nat) => (x : Int)) = bs xs := by simp [strOfNums, bs, Function.comp_def]
 subst hn
 cases a with
 | none =>
   have hx : xs = [] := by
    cases xs with
    | nil => rfl
    | cons y ys => obtain ⟨_, _, hh, _⟩ := h 0 (by simp); cases hh
   subst hx
   rw [run_convert_bytes_nil w 79 5 Tryz.underlying79 Tryz.underlying5 _ _ 9 Tryz.underlying9]
   rfl
 | some ad =>
   by_cases hx : xs = []
   · subst hx
     rw [run_convert_bytes_string w 79 9 5 _ _ _ Tryz.underlying79 Tryz.underlying5 Tryz.underlying9]
     rw [run_bytesToString w ad _ c [] (by rfl)]
     rfl
   · obtain ⟨b, o, hh, _⟩ := h 0 (by cases xs with | nil => exact absurd rfl hx | cons y ys => simp)
     cases hh
     rw [run_convert_bytes_arg w 79 5 Tryz.underlying79 Tryz.underlying5 b o _ c (xs.map fun (x : Nat) => (x : Int)) (by simp) (fun i hi => by
      obtain ⟨b', o', hh, h1⟩ := h i hi
      cases hh
      rw [h1]
      simp [List.getD_eq_getElem?_getD, List.getElem?_map, List.getElem?_eq_getElem hi]) 9 Tryz.underlying9, e]
theorem bytes_none {w : World} {xs : List Nat} (h : BytesIn w none xs) : xs = [] := by
 cases xs with
 | nil => rfl
 | cons y ys => obtain ⟨_, _, hh, _⟩ := h 0 (by simp); cases hh
theorem own_join {w : World} {base n m : Nat} {v : Value} {xs ys : List Nat} (hn : xs.length = n) (hm : ys.length = m) (h : w.ownsRow base 5 1 v (n + m) (vals xs ++ vals ys)) : Own w base v (xs ++ ys) := by
 subst hn hm
 unfold Own
 rw [← vals_append, List.length_append]
 exact h
theorem own_nil (w : World) (base : Nat) : Own w base (.slice none 0 0) [] := World.ownsRow_nil w base 5 1
theorem below_grow {N : Nat} {w0 w w' : World} {v : Value} {es : List Nat} (hN : N ≤ w0.heap.size) (hb : Below N w0 w) (hown : Own w N v es) (hg : w.grownBy w' v.ownBlock) : Below N w0 w' :=
 hb.grown hg (Nat.le_trans hN hb.size) (fun k hk => (World.ownsRow.lt hown k hk).1)
theorem below_stepN {N : Nat} {W w w' : World} (hN : N ≤ W.heap.size) (h : Below N W w) (hb : Below w.heap.size w w') : Below N W w' := h.trans (hb.mono (Nat.le_trans hN h.size))
theorem wp_append_bytes (w : World) {o : Oper} {act : Act} {K : Act → World → Prop} {Q : Exit → Act → World → Prop} (s x : Operand)
 (ho : o.op = .call { callee := .builtin .append, args := #[s, x], argTypes := #[79, 79] }) (base : Nat) (v : Value) (es ys : List Nat) (hs : act.eval s = v) (hown : Own w base v es)
 (a : Option Addr) (m c' : Nat) (hx : act.eval x = .slice a m c') (hm : ys.length = m) (hnil : a = none → c' = 0) (hin : BytesIn w a ys) (hbytes : es.length + ys.length ≤ 140737488355328) (hbase : base ≤ w.heap.size)
 (hK : ∀ v' w', Own w' base v' (es ++ ys) → w.grownBy w' v.ownBlock → K (act.put o.dst v') w') : o.wp Tryz.prog act w K Q := by
 obtain ⟨i0, hi, hz0, hz1, hz2⟩ := info_parts infoB
 subst hm
 cases a with
 | none =>
   obtain rfl := bytes_none hin
   obtain rfl := hnil rfl
   have hrun := run_append_owned_none (P := Tryz.prog) w base 79 o.type 5 i0 1 Tryz.underlying79 hi _ _ _ hown
   unfold Oper.wp
   simp only [List.length_nil] at hx
   simp [execOp, ho, resolve, invoke, builtin, hs, hx, hrun, Result.andThen]
   have := hK v w (by rw [List.append_nil]; exact hown) ⟨rfl, rfl, rfl, Nat.le_refl _, fun _ _ _ => rfl⟩
   exact this
 | some ad =>
   obtain ⟨v', w', hr, h2, h3, _⟩ := run_append_own_at (P := Tryz.prog) w base 79 o.type 5 i0 (.int .u8 0) 1 1 Tryz.underlying79 hi hz0 hz1 hz2 rfl (by decide) v es.length (vals es) hown ad ys.length c' (vals ys) (by rw [vals_len]; omega) hin.news (vals_one ys) (by unfold maxLen; omega) (by omega) hbase
   unfold Oper.wp execOp
   simp only [ho, resolve, invoke, builtin, Sem.run_bind, Sem.run_pure, Result.andThen_ok, List.map_toArray, List.map_cons, List.map_nil, hs, hx, hr]
   exact hK v' w' (own_join rfl rfl h2) h3
theorem wpList_append_bytes (w : World) {ops : Array Oper} {rest : List Oper} {o : Oper} {act : Act} {Q : Exit → Act → World → Prop} (hgd : o.guard = none) (s x : Operand)
 (ho : o.op = .call { callee := .builtin .append, args := #[s, x], argTypes := #[79, 79] }) (base : Nat) (v : Value) (es ys : List Nat) (hs : act.eval s = v) (hown : Own w base v es)
 (a : Option Addr) (m c' : Nat) (hx : act.eval x = .slice a m c') (hm : ys.length = m) (hnil : a = none → c' = 0) (hin : BytesIn w a ys) (hbytes : es.length + ys.length ≤ 140737488355328) (hbase : base ≤ w.heap.size)
 (hK : ∀ v' w', Own w' base v' (es ++ ys) → w.grownBy w' v.ownBlock → wpList Tryz.prog ops Q rest (act.put o.dst v') w') : wpList Tryz.prog ops Q (o :: rest) act w :=
 wpList_plain hgd fun _ hK' => wp_append_bytes w s x ho base v es ys hs hown a m c' hx hm hnil hin hbytes hbase fun v' w' h1 h2 => hK' _ _ (hK v' w' h1 h2)
def ApB (w : World) (base : Nat) (v : Value) (xs : List Nat) : Prop :=
 Own w base v xs ∨ ∃ g, v = .slice (some ⟨g, 0, none⟩) xs.length xs.length ∧ base ≤ g ∧ BytesIn w (some ⟨g, 0, none⟩) xs ∧ 0 < xs.length
theorem ApB.bytes {w : World} {base : Nat} {v : Value} {xs : List Nat} (h : ApB w base v xs) : ∃ a c, v = .slice a xs.length c ∧ BytesIn w a xs := by
 rcases h with h | ⟨g, rfl, _, h2, _⟩
 · obtain ⟨a, c, e, h1, _⟩ := h.bytes
   exact ⟨a, c, e, h1⟩
 · exact ⟨_, _, rfl, h2⟩
theorem one_in {w : World} {B c : Nat} (h : w.cell? ⟨B, 0, none⟩ = some (.int .u8 (c : Int))) : BytesIn w (some ⟨B, 0, none⟩) [c] := by
 intro i hi
 simp at hi
 subst hi
 exact ⟨B, 0, rfl, h⟩
theorem ApB.on {w w' : World} {base : Nat} {v : Value} {xs : List Nat} (h : ApB w base v xs) (hb : Below w.heap.size w w') : ApB w' base v xs := by
 rcases h with h | ⟨g, e, h1, h2, h3⟩
 · exact .inl (h.on hb)
 · exact .inr ⟨g, e, h1, h2.on hb, h3⟩
theorem wpList_append_one (N : Nat) (w w0 : World) {ops : Array Oper} {rest : List Oper} {o : Oper} {act : Act} {Q : Exit → Act → World → Prop} (hgd : o.guard = none) (s x : Operand)
 (ho : o.op = .call { callee := .builtin .append, args := #[s, x], argTypes := #[79, 79] }) (v : Value) (es : List Nat) (hs : act.eval s = v) (hap : ApB w N v es)
 (B c : Nat) (hx : act.eval x = .slice (some ⟨B, 0, none⟩) 1 1) (hc : w.cell? ⟨B, 0, none⟩ = some (.int .u8 (c : Int))) (hlen : es.length + 1 ≤ 140737488355328) (hN : N ≤ w0.heap.size) (hb : Below N w0 w)
 (hK : ∀ v' w', Own w' N v' (es ++ [c]) → Below N w0 w' → wpList Tryz.prog ops Q rest (act.put o.dst v') w') : wpList Tryz.prog ops Q (o :: rest) act w := by
 rcases hap with hown | ⟨g, rfl, hg, hin, hpos⟩
 · exact wpList_append_bytes w hgd s x ho N v es [c] hs hown (some ⟨B, 0, none⟩) 1 1 hx rfl (fun h => by cases h) (one_in hc) hlen (Nat.le_trans hN hb.size) fun v' w' h1 h2 => hK v' w' h1 (below_grow hN hb hown h2)
 · obtain ⟨i0, hi, hz0, hz1, hz2⟩ := info_parts infoB
   refine wpList_plain hgd fun _ hK' => ?_
   have hge := grownCap_ge w (es.length + 1) es.length 5
   have hcm : grownCap w (es.length + 1) es.length 5 ≤ maxLen := grownCap_le_maxLen w _ _ _ (by unfold maxLen; omega)
   have hr := run_append_grow (P := Tryz.prog) w 79 o.type 5 i0 (.int .u8 0) Tryz.underlying79 hi hz0 ⟨g, 0, none⟩ es.length es.length (vals es) (by rw [vals_len, hz1]; omega) hin.news ⟨B, 0, none⟩ 1 1 (vals [c]) (by rw [hz1]; rfl) (one_in hc).news (by omega) (by omega) (by rw [hz2]; exact growslice_fits (by omega) (by omega))
   unfold Oper.wp execOp
   simp only [ho, resolve, invoke, builtin, Sem.run_bind, Sem.run_pure, Result.andThen_ok, List.map_toArray, List.map_cons, List.map_nil, hs, hx, hr]
   refine hK' _ _ (hK _ _ ?_ ?_)
   · refine own_join rfl rfl ⟨by rw [List.length_append, vals_len, vals_len]; simp, .inr ⟨w.heap.size, _, _, rfl, Nat.le_trans hN hb.size, heap_alloc_new w.drew _, hge, hcm, ?_, ?_⟩⟩
     · simp only [Array.size_append, List.size_toArray, size_zeroCells, vals_len]
       simp [Value.cells]; omega
     · have e : (es.length + [c].length) * 1 = (vals es ++ vals [c]).length := by rw [List.length_append, vals_len, vals_len]; simp
       rw [Array.toList_append, Array.toList_append, e]
       exact List.take_left
   · exact (hb.drew).alloc (Nat.le_trans hN hb.size) _
def ValsIn (w : World) (a : Option Addr) (vs : List Val) : Prop :=
 ∀ i (h : i < vs.length), ∃ b o, a = some ⟨b, o, none⟩ ∧ In4 w b (o + i * 4) (vs[i]).k (vs[i]).n (vs[i]).t (vs[i]).b
theorem ValsIn.on {w w' : World} {a : Option Addr} {vs : List Val} (h : ValsIn w a vs) (hb : Below w.heap.size w w') : ValsIn w' a vs := by
 intro i hi
 obtain ⟨b, o, e, h1⟩ := h i hi
 exact ⟨b, o, e, h1.on hb⟩
theorem valsIn_nil (w : World) (a : Option Addr) : ValsIn w a [] := fun i hi => by simp at hi
def datV {H : Type} (v : Val) : DataW H := .agg [.lit (.int .i64 v.k), .lit (.int .i64 v.n), .lit (.string v.t.data.toList), .lit (.bool v.b)]
def WfV (v : Val) : Prop := inI v.k ∧ inI v.n ∧ v.t.size ≤ maxLen
def valCells : List Val → List Value
 | [] => []
 | v :: r => .int .i64 v.k :: .int .i64 v.n :: .string v.t :: .bool v.b :: valCells r
theorem valCells_len : ∀ vs, (valCells vs).length = vs.length * 4
 | [] => rfl
 | a :: r => by simp only [valCells, List.length_cons, valCells_len r]; omega
theorem valCells_append : ∀ a b, valCells a ++ valCells b = valCells (a ++ b)
 | [], _ => rfl
 | x :: r, b => by simp only [valCells, List.cons_append, valCells_append r b]
theorem valCells_at : ∀ (vs : List Val) (i : Nat) (h : i < vs.length), (valCells vs)[i * 4]? = some (.int .i64 vs[i].k) ∧ (valCells vs)[i * 4 + 1]? = some (.int .i64 vs[i].n) ∧ (valCells vs)[i * 4 + 2]? = some (.string vs[i].t) ∧ (valCells vs)[i * 4 + 3]? = some (.bool vs[i].b)
 | [], i, h => by simp at h
 | a :: r, 0, _ => ⟨rfl, rfl, rfl, rfl⟩
 | a :: r, i + 1, h => by
   obtain ⟨h0, h1, h2, h3⟩ := valCells_at r i (by simpa using h)
   refine ⟨?_, ?_, ?_, ?_⟩
   · rw [show (i + 1) * 4 = i * 4 + 4 by omega]; simp only [valCells, List.getElem?_cons_succ, List.getElem_cons_succ]; exact h0
   · rw [show (i + 1) * 4 + 1 = i * 4 + 1 + 4 by omega]; simp only [valCells, List.getElem?_cons_succ, List.getElem_cons_succ]; exact h1
   · rw [show (i + 1) * 4 + 2 = i * 4 + 2 + 4 by omega]; simp only [valCells, List.getElem?_cons_succ, List.getElem_cons_succ]; exact h2
   · rw [show (i + 1) * 4 + 3 = i * 4 + 3 + 4 by omega]; simp only [valCells, List.getElem?_cons_succ, List.getElem_cons_succ]; exact h3
theorem valCells_one : ∀ (vs : List Val), ∀ u ∈ valCells vs, u.oneCell' = true
 | [], u, h => by simp [valCells] at h
 | a :: r, u, h => by
   simp only [valCells, List.mem_cons] at h
   rcases h with rfl | rfl | rfl | rfl | h
   · rfl
   · rfl
   · rfl
   · rfl
   · exact valCells_one r u h
theorem valNews {w : World} {b o : Nat} {vs : List Val} (h : ValsIn w (some ⟨b, o, none⟩) vs) : ∀ j u, (valCells vs)[j]? = some u → w.cell? ((⟨b, o, none⟩ : Addr).add j) = some u := by
 intro j u hj
 obtain ⟨hlt, _⟩ := List.getElem?_eq_some_iff.1 hj
 rw [valCells_len] at hlt
 have hi : j / 4 < vs.length := by omega
 obtain ⟨b', o', e', h0, h1, h2, h3⟩ := h (j / 4) hi
 simp only [Option.some.injEq, Addr.mk.injEq] at e'
 obtain ⟨rfl, rfl, _⟩ := e'
 obtain ⟨c0, c1, c2, c3⟩ := valCells_at vs (j / 4) hi
 rw [Addr.add_lit]
 rcases (by omega : j = j / 4 * 4 ∨ j = j / 4 * 4 + 1 ∨ j = j / 4 * 4 + 2 ∨ j = j / 4 * 4 + 3) with e | e | e | e
 · rw [e, c0] at hj; rw [e]; exact h0.trans hj
 · rw [e, c1] at hj; rw [e, ← Nat.add_assoc]; exact h1.trans hj
 · rw [e, c2] at hj; rw [e, ← Nat.add_assoc]; exact h2.trans hj
 · rw [e, c3] at hj; rw [e, ← Nat.add_assoc]; exact h3.trans hj
def OwnV (w : World) (base : Nat) (v : Value) (vs : List Val) : Prop := w.ownsRow base 73 4 v vs.length (valCells vs)
theorem OwnV.vals {w : World} {base : Nat} {v : Value} {vs : List Val} (h : OwnV w base v vs) : ∃ a c, v = .slice a vs.length c ∧ ValsIn w a vs ∧ (a = none → c = 0) := by
 rcases h.2 with ⟨rfl, h0⟩ | ⟨g, cap, cur, rfl, hb, hg, h1, h2, h3, h4⟩
 · refine ⟨none, 0, by rw [h0], fun i hi => by omega, fun _ => rfl⟩
 · refine ⟨_, cap, rfl, fun i hi => ⟨g, 0, rfl, ?_⟩, fun hh => by cases hh⟩
   obtain ⟨c0, c1, c2, c3⟩ := valCells_at vs i hi
   have k0 := World.ownsRow.cells h (g := g) rfl _ _ c0
   have k1 := World.ownsRow.cells h (g := g) rfl _ _ c1
   have k2 := World.ownsRow.cells h (g := g) rfl _ _ c2
   have k3 := World.ownsRow.cells h (g := g) rfl _ _ c3
   rw [Addr.add_lit] at k0 k1 k2 k3
   exact ⟨k0, by rw [Nat.add_assoc]; exact k1, by rw [Nat.add_assoc]; exact k2, by rw [Nat.add_assoc]; exact k3⟩
theorem OwnV.on {w w' : World} {base : Nat} {v : Value} {xs : List Val} (h : OwnV w base v xs) (hb : Below w.heap.size w w') : OwnV w' base v xs := by
 refine ⟨h.1, ?_⟩
 rcases h.2 with h1 | ⟨g, cap, cur, e, h1, h2, h3, h4, h5, h6⟩
 · exact .inl h1
 · have hlt : g < w.heap.size := by
    rcases Nat.lt_or_ge g w.heap.size with hl | hl
    · exact hl
    · rw [Array.getElem?_eq_none hl] at h2; cases h2
   exact .inr ⟨g, cap, cur, e, h1, (hb.block g hlt).trans h2, h3, h4, h5, h6⟩
theorem ownV_nil (w : World) (base : Nat) : OwnV w base (.slice none 0 0) [] := World.ownsRow_nil w base 73 4
theorem infoV : (Tryz.prog.info? 73).map (fun i => (i.zero, i.size, i.bytes)) = some (some (.agg #[.int .i64 0, .int .i64 0, .string ⟨#[]⟩, .bool false]), 4, 40) := by kernel_rfl
theorem below_growV {N : Nat} {w0 w w' : World} {v : Value} {es : List Val} (hN : N ≤ w0.heap.size) (hb : Below N w0 w) (hown : OwnV w N v es) (hg : w.grownBy w' v.ownBlock) : Below N w0 w' :=
 hb.grown hg (Nat.le_trans hN hb.size) (fun k hk => (World.ownsRow.lt hown k hk).1)
theorem ownV_join {w : World} {base n m : Nat} {v : Value} {xs ys : List Val} (hn : xs.length = n) (hm : ys.length = m) (h : w.ownsRow base 73 4 v (n + m) (valCells xs ++ valCells ys)) : OwnV w base v (xs ++ ys) := by
 subst hn hm
 unfold OwnV
 rw [← valCells_append, List.length_append]
 exact h
theorem one_inV {w : World} {B : Nat} {v : Val} (h : In4 w B 0 v.k v.n v.t v.b) : ValsIn w (some ⟨B, 0, none⟩) [v] := by
 intro i hi
 simp at hi
 subst hi
 exact ⟨B, 0, rfl, by simpa using h⟩
theorem wpList_append_vals (N : Nat) (w w0 : World) {ops : Array Oper} {rest : List Oper} {o : Oper} {act : Act} {Q : Exit → Act → World → Prop} (hgd : o.guard = none) (s x : Operand)
 (ho : o.op = .call { callee := .builtin .append, args := #[s, x], argTypes := #[52, 52] }) (v : Value) (es ys : List Val) (hs : act.eval s = v) (hown : OwnV w N v es)
 (b oo m c' : Nat) (hx : act.eval x = .slice (some ⟨b, oo, none⟩) m c') (hm : ys.length = m) (hin : ValsIn w (some ⟨b, oo, none⟩) ys) (hlen : (es.length + ys.length) * 40 ≤ 140737488355328) (hN : N ≤ w0.heap.size) (hb : Below N w0 w)
 (hK : ∀ v' w', OwnV w' N v' (es ++ ys) → Below N w0 w' → wpList Tryz.prog ops Q rest (act.put o.dst v') w') : wpList Tryz.prog ops Q (o :: rest) act w := by
 obtain ⟨i0, hi, hz0, hz1, hz2⟩ := info_parts infoV
 subst hm
 refine wpList_append_own w hgd s x 52 ho N 73 i0 (.agg #[.int .i64 0, .int .i64 0, .string ⟨#[]⟩, .bool false]) 4 40 Tryz.underlying52 hi hz0 hz1 hz2 rfl (by decide) v es.length (valCells es) hs hown ⟨b, oo, none⟩ ys.length c' (valCells ys) hx (valCells_len ys) (valNews hin) (valCells_one ys) (by unfold maxLen; omega) (by omega) (Nat.le_trans hN hb.size) ?_
 intro v' w' h1 h2 _
 exact hK v' w' (ownV_join rfl rfl h1) (below_growV hN hb hown h2)
end Go.Proofs.YtalmanfjiblhcaaGreat.Rw
namespace Go.Proofs.YtalmanfjiblhcaaGreat.Rw
open Go.ChangeShapes Go.WideShapes Go.ChangeAt Go.RowKit
theorem own : ownKnob Tryz.prog.godebug = none := by kernel_rfl
theorem laidOut : laidOutB Tryz.prog = true := by kernel_rfl
theorem cellsV : Tryz.prog.cellsOf 73 = 4 := by kernel_rfl
theorem i64_in {x : Int} (h : (Lit.int .i64 x).wf = true) : inI x := by
 simp only [Lit.wf, Bool.and_eq_true, decide_eq_true_eq] at h
 exact h
theorem plain_addr {W : World} {b o : Nat} {sp : Option Nat} {v : Value} (h : W.cell? ⟨b, o, sp⟩ = some v) : sp = none := by
 cases sp with
 | none => rfl
 | some x =>
   unfold World.cell? at h
   split at h
   · simp at h
   · cases h
end Go.Proofs.YtalmanfjiblhcaaGreat.Rw
namespace Go.Proofs
open Go.Shelf
def Tryz.lays129_ren : Go.Shelf.Ren := ⟨fun | 129 => 93 | n => n, fun | 53 => 151 | 3 => 3 | 4 => 4 | 46 => 49 | 5 => 5 | 9 => 9 | n => n, fun | n => n⟩
theorem Tryz.lays129 : Go.Proofs.Lays.n129 Tryz.prog Tryz.lays129_ren := {
 mixed := by kernel_rfl
 f129 := Tryz.func93.trans (congrArg some (by kernel_rfl))
 t3 := Tryz.underlying3
 a3 := Tryz.isAgg3
 z3 := Tryz.sizeOf3
 v3 := Tryz.zeroValue3
 t4 := Tryz.underlying4
 a4 := Tryz.isAgg4
 z4 := Tryz.sizeOf4
 v4 := Tryz.zeroValue4
 t5 := Tryz.underlying5
 a5 := Tryz.isAgg5
 z5 := Tryz.sizeOf5
 v5 := Tryz.zeroValue5
 t9 := Tryz.underlying9
 a9 := Tryz.isAgg9
 z9 := Tryz.sizeOf9
 v9 := Tryz.zeroValue9
 t46 := Tryz.underlying49
 a46 := Tryz.isAgg49
 z46 := Tryz.sizeOf49
 v46 := Tryz.zeroValue49
 t53 := Tryz.underlying151
 a53 := Tryz.isAgg151
 z53 := Tryz.sizeOf151
 v53 := Tryz.zeroValue151 }
theorem Tryz.bits_Len64 (x : Int) (w : World) (h0 : 0 ≤ x) (h1 : x ≤ 18446744073709551615) :
 Calls Tryz.prog 93 #[.int .u64 x] w fun e w' => e = .returned (.int .i64 (Lib.bitLen x.toNat)) ∧ w' = w := Any.bits_Len64 Tryz.lays129 x w h0 h1
end Go.Proofs
