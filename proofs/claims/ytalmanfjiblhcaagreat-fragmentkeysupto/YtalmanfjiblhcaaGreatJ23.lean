/- Rows read plainly: what is read is laid so; bytes are at most one row's. No program is walked in it; The walks of pack.withRoom, lay, AppendUint, and of the law's twin; The walks of pack.lay, AppendUint, AppendInt, AppendText; The walks of pack.AppendUint, AppendInt, AppendText; The walks of pack.AppendInt and pack.Int. -/
import Derived.Test.YtalmanfjiblhcaaGreatJ3
import Derived.Room.AppendFits
namespace Go.Proofs.YtalmanfjiblhcaaGreat.Rw
open Go.Lib
theorem zz_unzz (v : Nat) : zz (unzz v) = v := by
 unfold zz unzz
 split <;> split <;> omega
theorem unzz_in {v : Nat} (h : v < 18446744073709551616) : inI (unzz v) := by
 unfold inI unzz
 split <;> constructor <;> omega
theorem sb_bs {ys : List Nat} (h : ∀ y ∈ ys, y < 256) : sb (bs ys) = ys := by
 unfold sb bs
 simp only
 rw [List.map_map]
 conv => rhs; rw [← List.map_id ys]
 refine List.map_congr_left fun y hy => ?_
 have := h y hy
 simp [UInt8.toNat_ofNat']
 omega
def IsRow (cs : List Col) (xs : List Nat) (l : List Val) : Prop := chkR cs l = 0 ∧ (∀ v ∈ l, inI v.n) ∧ xs = rowB l
theorem isRow_one {cs : List Col} {xs : List Nat} {l l' : List Val} (h : IsRow cs xs l) (h' : IsRow cs xs l') : l = l' := by
 obtain ⟨h1, h2, h3⟩ := h
 obtain ⟨g1, g2, g3⟩ := h'
 exact row_inj cs l l' (chkR_zero h1).1 (chkR_zero g1).1 (chkR_zero h1).2 (chkR_zero g1).2 h2 g2 (h3.symm.trans g3)
theorem some_back {k : Int} {xs : List Nat} {v : Val} {m : Nat} (hb : ∀ x ∈ xs, x < 256) (h : someR k xs = (v, m, true)) : xs.take m = (layV v).drop 1 ∧ v.k ≠ 0 ∧ m ≤ xs.length ∧ inI v.n := by
 unfold someR at h
 split at h
 · rename_i hk
   simp only [Prod.mk.injEq, decide_eq_true_eq] at h
   obtain ⟨rfl, rfl, h0⟩ := h
   simp only [rdI] at h0 ⊢
   obtain ⟨h1, h2, h3, h4⟩ := rdU_back xs hb h0
   refine ⟨?_, by decide, h3, unzz_in h4⟩
   simp [layV, zz_unzz, h1]
 · split at h
   · simp only [Prod.mk.injEq, decide_eq_true_eq] at h
     obtain ⟨rfl, rfl, h0⟩ := h
     unfold rdT at h0 ⊢
     rw [if_neg (by decide)] at h0 ⊢
     by_cases c1 : (rdU xs).2.2 ≠ 0
     · rw [if_pos c1] at h0; exact absurd h0 c1
     rw [if_neg c1] at h0 ⊢
     by_cases c2 : (4096 : Int) < (rdU xs).1
     · rw [if_pos c2] at h0; simp at h0
     rw [if_neg c2] at h0 ⊢
     by_cases c3 : xs.length - (rdU xs).2.1 < (rdU xs).1
     · rw [if_pos c3] at h0; simp at h0
     rw [if_neg c3]
     obtain ⟨h1, h2, h3, h4⟩ := rdU_back xs hb (by simpa using c1)
     have hl : ((xs.drop (rdU xs).2.1).take (rdU xs).1).length = (rdU xs).1 := by rw [List.length_take, List.length_drop]; omega
     refine ⟨?_, by simp, by simp only; omega, by simp [inI]⟩
     have e : layV ⟨2, 0, bs ((xs.drop (rdU xs).2.1).take (rdU xs).1), false⟩ = 1 :: (enc (rdU xs).1 ++ (xs.drop (rdU xs).2.1).take (rdU xs).1) := by
      unfold layV
      rw [if_neg (by simp), if_neg (by simp), if_pos rfl]
      simp only
      rw [bs_size, hl, sb_bs (fun y hy => hb y (List.mem_of_mem_drop (List.mem_of_mem_take hy)))]
     rw [e, List.drop_one, List.tail_cons, h1]
     simp only
     rw [List.take_add]
   · split at h
     · rename_i hc
       obtain ⟨hk, hl, hx⟩ := hc
       simp only [Prod.mk.injEq, and_true] at h
       obtain ⟨rfl, rfl⟩ := h
       refine ⟨?_, by simp, hl, by simp [inI]⟩
       cases xs with
       | nil => simp at hl
       | cons y ys =>
         simp only [List.getD_cons_zero] at hx ⊢
         rcases (by omega : y = 0 ∨ y = 1) with rfl | rfl <;> simp [layV]
     · simp at h
theorem first_back {k : Int} {xs : List Nat} {v : Val} {m : Nat} (hb : ∀ x ∈ xs, x < 256) (h : firstR k xs = (v, m, true)) : xs.take m = layV v ∧ m ≤ xs.length ∧ inI v.n := by
 unfold firstR at h
 cases xs with
 | nil => simp at h
 | cons y ys =>
   simp only [List.length_cons, List.getD_cons_zero, List.drop_succ_cons, List.drop_zero] at h
   by_cases c1 : ys.length + 1 = 0 ∨ 1 < y
   · rw [if_pos c1] at h; simp at h
   rw [if_neg c1] at h
   by_cases c2 : y = 0
   · rw [if_pos c2] at h
     simp only [Prod.mk.injEq, and_true] at h
     obtain ⟨rfl, rfl⟩ := h
     subst c2
     refine ⟨by simp [layV, vZ], by simp, by simp [inI, vZ]⟩
   · rw [if_neg c2] at h
     simp only [Prod.mk.injEq] at h
     obtain ⟨h1, rfl, h3⟩ := h
     obtain rfl : y = 1 := by omega
     obtain ⟨q1, q2, q3, q4⟩ := some_back (k := k) (xs := ys) (v := v) (m := (someR k ys).2.1) (fun x hx => hb x (List.mem_cons_of_mem _ hx)) (by rw [← h1, ← h3])
     refine ⟨?_, by simp only [List.length_cons]; omega, q4⟩
     rw [Nat.add_comm 1, List.take_succ_cons, q1]
     unfold layV
     rw [if_neg q2]
     simp
def DecI (cs : List Col) (xs : List Nat) (i : Nat) (p : List Val) (r : List Nat) : Prop :=
 p.length = i ∧ (∀ v ∈ p, inI v.n) ∧ xs = rowB p ++ r ∧ ∀ l, IsRow cs xs l → l.take i = p ∧ rowB (l.drop i) = r
theorem dec_start (cs : List Col) (xs : List Nat) : DecI cs xs 0 [] xs :=
 ⟨rfl, fun v hv => by simp at hv, rfl, fun l hl => ⟨rfl, by rw [List.drop_zero]; exact hl.2.2.symm⟩⟩
theorem row_at {cs : List Col} {xs : List Nat} {l : List Val} (h : IsRow cs xs l) {i : Nat} (hi : i < cs.length) : ∃ hl : i < l.length, rowB (l.drop i) = layV l[i] ++ rowB (l.drop (i + 1)) ∧ validN l[i] = 0 ∧ inI l[i].n ∧ (l[i].k = 0 ∨ l[i].k = cs[i].k) := by
 obtain ⟨h1, h2, h3⟩ := h
 obtain ⟨hl, hz⟩ := chkR_zero h1
 have hlt : i < l.length := by omega
 refine ⟨hlt, ?_, ?_⟩
 · rw [List.drop_eq_getElem_cons hlt, rowB_cons]
 · have := fit_valid (chkZ_zero _ _ hz i hi hlt)
   exact ⟨this.1, h2 _ (List.getElem_mem hlt), this.2⟩
theorem dec_next {cs : List Col} {xs : List Nat} {i : Nat} {p : List Val} {r : List Nat} (hi : i < cs.length) (h : DecI cs xs i p r) (hb : ∀ x ∈ r, x < 256) {v : Val} {m : Nat} (hf : firstR cs[i].k r = (v, m, true)) : DecI cs xs (i + 1) (p ++ [v]) (r.drop m) := by
 obtain ⟨h1, h2, h3, h4⟩ := h
 obtain ⟨q1, q2, q3⟩ := first_back hb hf
 refine ⟨by simp [h1], ?_, ?_, ?_⟩
 · intro x hx
   rcases List.mem_append.1 hx with hx | hx
   · exact h2 x hx
   · rw [List.mem_singleton.1 hx]; exact q3
 · rw [h3]
   unfold rowB
   rw [List.flatMap_append, List.append_assoc]
   congr 1
   simp only [List.flatMap_cons, List.flatMap_nil, List.append_nil]
   rw [← q1, List.take_append_drop]
 · intro l hl
   obtain ⟨g1, g2⟩ := h4 l hl
   obtain ⟨hlt, e, z1, z2, z3⟩ := row_at hl hi
   rw [← g2, e, first_lay z1 z2 z3] at hf
   simp only [Prod.mk.injEq, and_true] at hf
   obtain ⟨hv, hm⟩ := hf
   constructor
   · rw [List.take_add_one, List.getElem?_eq_getElem hlt, g1, ← hv]; rfl
   · rw [← g2, e, ← hm, List.drop_left]
theorem dec_bad {cs : List Col} {xs : List Nat} {i : Nat} {p : List Val} {r : List Nat} (hi : i < cs.length) (h : DecI cs xs i p r) (hf : (firstR cs[i].k r).2.2 = false) : ∀ l, ¬ IsRow cs xs l := by
 intro l hl
 obtain ⟨g1, g2⟩ := h.2.2.2 l hl
 obtain ⟨hlt, e, z1, z2, z3⟩ := row_at hl hi
 rw [← g2, e, first_lay z1 z2 z3] at hf
 cases hf
theorem dec_rest {cs : List Col} {xs : List Nat} {p : List Val} {r : List Nat} (h : DecI cs xs cs.length p r) (hr : r ≠ []) : ∀ l, ¬ IsRow cs xs l := by
 intro l hl
 obtain ⟨g1, g2⟩ := h.2.2.2 l hl
 have := (chkR_zero hl.1).1
 rw [← this, List.drop_length, rowB_nil] at g2
 exact hr g2.symm
theorem dec_chk {cs : List Col} {xs : List Nat} {p : List Val} {r : List Nat} (h : DecI cs xs cs.length p r) (hc : chkR cs p ≠ 0) : ∀ l, ¬ IsRow cs xs l := by
 intro l hl
 obtain ⟨g1, g2⟩ := h.2.2.2 l hl
 have := (chkR_zero hl.1).1
 rw [← this, List.take_length] at g1
 exact hc (g1 ▸ hl.1)
theorem dec_ok {cs : List Col} {xs : List Nat} {p : List Val} (h : DecI cs xs cs.length p []) (hc : chkR cs p = 0) : IsRow cs xs p :=
 ⟨hc, h.2.1, by have := h.2.2.1; rwa [List.append_nil] at this⟩
end Go.Proofs.YtalmanfjiblhcaaGreat.Rw
namespace Go.Proofs.YtalmanfjiblhcaaGreat.Rw
open Go.RowKit Go.Sort
set_option maxHeartbeats 1000000 in
theorem room_ (a : Option Addr) (xs : List Nat) (c k : Nat) (w : World) (h : BytesIn w a xs) (hc : a = none → c = 0) (hn : xs.length + k ≤ 281474976710656) :
 Calls Tryz.prog 138 #[.slice a xs.length c, .int .i64 k] w fun e w' => e = .returned (.slice (some ⟨w.heap.size, 0, none⟩) xs.length (xs.length + k)) ∧ Own w' w.heap.size (.slice (some ⟨w.heap.size, 0, none⟩) xs.length (xs.length + k)) xs ∧ Below w.heap.size w w' := by
 obtain ⟨i0, hi, hz0, hz1, hz2⟩ := info_parts infoB
 have HB := Lib.hid h
 have hvl := vals_len xs
 cases a with
 | none =>
   obtain rfl := bytes_none h
   obtain rfl := hc rfl
   clear h
   simp only [List.length_nil, Nat.zero_add] at hn ⊢
   go_enter Tryz.func138, Tryz.ntmps138
   go_wp2_with (first
    | (at_make; refine wpList_make_own _ rfl _ _ _ rfl w.heap.size 5 i0 _ 1 Tryz.underlying79 hi hz0 hz1 .i64 .i64 k k rfl rfl rfl (by rw [hz2]; omega) (by unfold maxLen; omega) (Nat.le_refl _) ?_; intro w1 hown hgrow)
    | go_in)
   have hb := (Below.refl w.heap.size w).grown hgrow (Nat.le_refl _) (fun k hk => by cases hk)
   go_ret
   exact ⟨rfl, hown, hb⟩
 | some ad =>
   generalize hL : xs.length = n at *
   clear h hc
   go_enter Tryz.func138, Tryz.ntmps138
   go_wp2_with (first
    | (at_make; refine wpList_make_own _ rfl _ _ _ rfl w.heap.size 5 i0 _ 1 Tryz.underlying79 hi hz0 hz1 .i64 .i64 (n + k) (n + k) rfl rfl (by simp) (by rw [hz2]; omega) (by unfold maxLen; omega) (Nat.le_refl _) ?_
       intro w1 hown hgrow
       have HO := Lib.hid hown
       have hb := (Below.refl w.heap.size w).grown hgrow (Nat.le_refl _) (fun k hk => by cases hk)
       clear hown hgrow)
    | (at_builtin; refine wpList_append_fits _ rfl _ _ 79 rfl w.heap.size 5 i0 1 Tryz.underlying79 hi hz1 w.heap.size 0 (n + k) [] rfl HO.out ad n c (vals xs) rfl (by omega) (HB.out.on hb).news (vals_one xs) (by omega) ?_
       intro w2 hown hgrow2
       have HO2 := Lib.hid (own_mk hL hown)
       have hb2 := hb.grown hgrow2 hb.size (fun k hk => by cases hk; exact Nat.le_refl _)
       clear hown hgrow2)
    | go_in)
   go_ret
   exact ⟨rfl, HO2.out, hb2⟩
end Go.Proofs.YtalmanfjiblhcaaGreat.Rw
namespace Go.Proofs.YtalmanfjiblhcaaGreat.Rw
open Go.RowKit Go.Sort
theorem one_cell (w : World) (v : Value) (t : TypeId) : ∀ j u, [v][j]? = some u → (w.alloc (.cells #[v] t)).cell? ((⟨w.heap.size, 0, none⟩ : Addr).add j) = some u := by
 intro j u hj
 cases j with
 | zero => simp at hj; subst hj; simp [go_sem, Addr.add_lit]
 | succ j => simp at hj
theorem one_one (k : IntKind) (x : Int) : ∀ u ∈ [Value.int k x], u.oneCell' = true := by
 intro u hu
 simp at hu
 subst hu
 rfl
theorem or128_all : ∀ x : Fin 256, bits .or .u8 (x.val : Int) 128 = ((x.val % 128 + 128 : Nat) : Int) := by decide +kernel
theorem or128 (m : Nat) : bits .or .u8 ((m : Int) % 256) 128 = ((m % 128 + 128 : Nat) : Int) := by
 have h := or128_all ⟨m % 256, Nat.mod_lt _ (by decide)⟩
 simp only [Int.natCast_emod] at h
 rw [show ((m : Int) % 256) = ((m : Int) % ((256 : Nat) : Int)) from rfl, h]
 omega
theorem own_snoc {w : World} {base g c n y : Nat} {xs : List Nat} (hn : xs.length = n) (h : w.ownsRow base 5 1 (.slice (some ⟨g, 0, none⟩) (n + 1) c) (n + 1) (vals xs ++ [.int .u8 (y : Int)])) : Own w base (.slice (some ⟨g, 0, none⟩) (n + 1) c) (xs ++ [y]) := by
 subst hn
 unfold Own
 rw [← vals_append, List.length_append]
 exact h
set_option maxRecDepth 100000 in
set_option maxHeartbeats 1000000 in
theorem play_ (g cap base n : Nat) (xs : List Nat) (w : World) (h : Own w base (.slice (some ⟨g, 0, none⟩) xs.length cap) xs) (hn : n < 18446744073709551616) (hr : xs.length + (enc n).length ≤ cap) (hbase : base ≤ w.heap.size) :
 Calls Tryz.prog 137 #[.slice (some ⟨g, 0, none⟩) xs.length cap, .int .u64 n] w fun e w' => e = .returned (.slice (some ⟨g, 0, none⟩) (xs ++ enc n).length cap) ∧ Own w' base (.slice (some ⟨g, 0, none⟩) (xs ++ enc n).length cap) (xs ++ enc n) ∧ Below base w w' := by
 obtain ⟨i0, hi, hz0, hz1, hz2⟩ := info_parts infoB
 obtain ⟨zs, hzs⟩ : ∃ zs, zs = xs ++ enc n := ⟨_, rfl⟩
 have hzl : zs.length ≤ cap := by rw [hzs, List.length_append]; exact hr
 have HZ := Lib.hid hzs
 have HO := Lib.hid h
 rw [← hzs]
 clear h hr hzs
 generalize hL : xs.length = n0 at *
 go_enter Tryz.func137, Tryz.ntmps137
 go_wp2_with fail
 go_loopw [0, 1] (fun ov nv wr => ∃ (m : Nat) (ys : List Nat), nv = .int .u64 m ∧ ov = .slice (some ⟨g, 0, none⟩) ys.length cap ∧ Own wr base ov ys ∧ zs = ys ++ enc m ∧ Below base w wr ∧ m < 18446744073709551616) (fun _ nv _ => (intOf nv).toNat)
 case atStart => exact ⟨n, xs, rfl, by rw [hL], HO.out, HZ.out, Below.refl _ _, hn⟩
 case round =>
  obtain ⟨m, ys, rfl, rfl, hown, he, hb, hm⟩ := hrel
  have hrow : wr.ownsRow base 5 1 (.slice (some ⟨g, 0, none⟩) ys.length cap) ys.length (vals ys) := hown
  have HO1 := Lib.hid hrow
  have HE := Lib.hid he
  have hlen : ys.length + (enc m).length ≤ cap := by rw [← List.length_append, ← he]; exact hzl
  have hpos := enc_pos m
  have hg := (World.ownsRow.lt hown g rfl).1
  have hsz := hb.size
  obtain ⟨y, hy0⟩ : ∃ y, y = m % 128 + 128 := ⟨_, rfl⟩
  have h128 : bits .or .u8 ((m : Int) % 256) 128 = (y : Int) := by rw [hy0]; exact or128 m
  have HY := Lib.hid hy0
  clear hy0
  clear hown he HZ HO hrow
  by_cases hlt : 128 ≤ m
  · have e2 : zs = (ys ++ [y]) ++ enc (m / 128) := by rw [HE.out, HY.out, enc_ge hlt, List.append_assoc]; rfl
    have HE2 := Lib.hid e2
    clear e2 HE
    generalize hy : ys.length = yl at *
    go_wp2_with (first
     | (at_builtin; refine wpList_append_fits _ rfl _ _ 79 rfl base 5 i0 1 Tryz.underlying79 hi hz1 g yl cap (vals ys) rfl (HO1.out.alloc _) ⟨wr.heap.size, 0, none⟩ 1 1 [.int .u8 (y : Int)] rfl rfl (one_cell _ _ _) (one_one _ _) (by omega) ?_
        intro w2 hown hgrow2
        have HO2 : Hid (Own w2 base (.slice (some ⟨g, 0, none⟩) (yl + 1) cap) (ys ++ [y])) := Lib.hid (own_snoc hy hown)
        have hb2 := (hb.alloc (by omega) _).grown hgrow2 (by simp; omega) (fun k hk => by cases hk; exact hg)
        clear hown hgrow2)
     | go_in)
    go_roundw
    case rel => exact ⟨m / 128, ys ++ [y], by go_num, by rw [List.length_append, hy]; rfl, HO2.out, HE2.out, hb2, by omega⟩
    case measure => simp [intOf]; omega
  · have e2 : zs = ys ++ [m] := by rw [HE.out, enc_lt (by omega)]
    have HE2 := Lib.hid e2
    have h256 : (m : Int) % 256 = m := by omega
    clear e2 HE
    generalize hy : ys.length = yl at *
    go_wp2_with (first
     | (at_builtin; refine wpList_append_fits _ rfl _ _ 79 rfl base 5 i0 1 Tryz.underlying79 hi hz1 g yl cap (vals ys) rfl (HO1.out.alloc _) ⟨wr.heap.size, 0, none⟩ 1 1 [.int .u8 (m : Int)] rfl rfl (one_cell _ _ _) (one_one _ _) (by omega) ?_
        intro w2 hown hgrow2
        have HO2 : Hid (Own w2 base (.slice (some ⟨g, 0, none⟩) (yl + 1) cap) (ys ++ [m])) := Lib.hid (own_snoc hy hown)
        have hb2 := (hb.alloc (by omega) _).grown hgrow2 (by simp; omega) (fun k hk => by cases hk; exact hg)
        clear hown hgrow2)
     | go_in)
    go_ret
    have e3 : zs.length = yl + 1 := by rw [HE2.out, List.length_append, hy]; rfl
    rw [e3, HE2.out]
    exact ⟨rfl, HO2.out, hb2⟩
end Go.Proofs.YtalmanfjiblhcaaGreat.Rw
namespace Go.Proofs.YtalmanfjiblhcaaGreat.Rw
open Go.RowKit Go.Sort
def Laid (w : World) (xs : List Nat) (e : Ending) (w' : World) : Prop :=
 ∃ g c, e = .returned (.slice (some ⟨g, 0, none⟩) xs.length c) ∧ Own w' w.heap.size (.slice (some ⟨g, 0, none⟩) xs.length c) xs ∧ Below w.heap.size w w'
set_option maxRecDepth 100000 in
set_option maxHeartbeats 1000000 in
theorem appU_ (a : Option Addr) (xs : List Nat) (c n l : Nat) (w : World) (hl : xs.length = l) (h : BytesIn w a xs) (hc : a = none → c = 0) (hn : n < 18446744073709551616) (hlim : xs.length ≤ 281474976710646) :
 Calls Tryz.prog 136 #[.slice a l c, .int .u64 n] w (Laid w (xs ++ enc n)) := by
 subst hl
 have hle := enc_le10 n hn
 have HL := Lib.hid (len_ n w hn)
 have HR := Lib.hid (room_ a xs c (enc n).length w h hc (by omega))
 have HY : Hid (∀ W g cap, Own W w.heap.size (.slice (some ⟨g, 0, none⟩) xs.length cap) xs → xs.length + (enc n).length ≤ cap → Below w.heap.size w W → Calls Tryz.prog 137 #[.slice (some ⟨g, 0, none⟩) xs.length cap, .int .u64 n] W fun e w' => e = .returned (.slice (some ⟨g, 0, none⟩) (xs ++ enc n).length cap) ∧ Own w' w.heap.size (.slice (some ⟨g, 0, none⟩) (xs ++ enc n).length cap) (xs ++ enc n) ∧ Below w.heap.size W w') :=
  fun W g cap h1 h2 h3 => play_ g cap w.heap.size n xs W h1 hn h2 h3.size
 unfold Laid
 generalize hz : xs ++ enc n = zs at *
 generalize (enc n).length = k at *
 generalize xs.length = m at *
 clear h hc hz
 go_enter Tryz.func136, Tryz.ntmps136
 go_wp2_with fail
 refine HL.out.mono ?_
 rintro e w1 ⟨rfl, rfl⟩
 go_wp2_with fail
 refine HR.out.mono ?_
 rintro e w2 ⟨rfl, hO, hB⟩
 go_wp2_with fail
 refine (HY.out w2 _ _ hO (Nat.le_refl _) hB).mono ?_
 rintro e w3 ⟨rfl, hO3, hB3⟩
 go_wp2_with fail
 go_ret
 exact ⟨_, _, rfl, hO3, hB.trans hB3⟩
theorem kstrCells_vals (s : ByteArray) : Lib.strCells s = vals (sb s) := by
 unfold Lib.strCells vals sb
 rw [List.map_map]
 rfl
theorem own_text {w : World} {base g c n : Nat} {xs : List Nat} {s : ByteArray} (hn : xs.length = n) (h : w.ownsRow base 5 1 (.slice (some ⟨g, 0, none⟩) (n + s.size) c) (n + s.size) (vals xs ++ Lib.strCells s)) : Own w base (.slice (some ⟨g, 0, none⟩) (n + s.size) c) (xs ++ sb s) := by
 subst hn
 unfold Own
 rw [← vals_append, List.length_append, sb_length, ← kstrCells_vals]
 exact h
set_option maxRecDepth 100000 in
set_option maxHeartbeats 1000000 in
theorem appT_ (a : Option Addr) (xs : List Nat) (c l : Nat) (s : ByteArray) (w : World) (hl : xs.length = l) (h : BytesIn w a xs) (hc : a = none → c = 0) (hlim : xs.length + s.size ≤ 281474976710646) :
 Calls Tryz.prog 112 #[.slice a l c, .string s] w (Laid w (xs ++ enc s.size ++ sb s)) := by
 subst hl
 obtain ⟨i0, hi, hz0, hz1, hz2⟩ := info_parts infoB
 have hle := enc_le10 s.size (by omega)
 have hpos := enc_pos s.size
 have HL := Lib.hid (len_ s.size w (by omega))
 have HR := Lib.hid (room_ a xs c ((enc s.size).length + s.size) w h hc (by omega))
 have HY : Hid (∀ W g cap, Own W w.heap.size (.slice (some ⟨g, 0, none⟩) xs.length cap) xs → xs.length + (enc s.size).length ≤ cap → Below w.heap.size w W → Calls Tryz.prog 137 #[.slice (some ⟨g, 0, none⟩) xs.length cap, .int .u64 (s.size : Nat)] W fun e w' => e = .returned (.slice (some ⟨g, 0, none⟩) (xs ++ enc s.size).length cap) ∧ Own w' w.heap.size (.slice (some ⟨g, 0, none⟩) (xs ++ enc s.size).length cap) (xs ++ enc s.size) ∧ Below w.heap.size W w') :=
  fun W g cap h1 h2 h3 => play_ g cap w.heap.size s.size xs W h1 (by omega) h2 h3.size
 unfold Laid
 have hzl : (xs ++ enc s.size).length ≤ xs.length + (enc s.size).length := Nat.le_of_eq (List.length_append ..)
 generalize hz : xs ++ enc s.size = zs at *
 have htl : (zs ++ sb s).length = zs.length + s.size := by rw [List.length_append, sb_length]
 rw [htl]
 generalize (enc s.size).length = k at *
 generalize hm : xs.length = m at *
 generalize hzz : zs.length = zl at *
 have HT : Hid (∀ (W : World) (base g cap : Nat), W.ownsRow base 5 1 (.slice (some ⟨g, 0, none⟩) (zl + s.size) cap) (zl + s.size) (vals zs ++ Lib.strCells s) → Own W base (.slice (some ⟨g, 0, none⟩) (zl + s.size) cap) (zs ++ sb s)) := fun W base g cap hh => own_text hzz hh
 have HW : Hid (∀ (W : World) (base g cap : Nat), Own W base (.slice (some ⟨g, 0, none⟩) zl cap) zs → W.ownsRow base 5 1 (.slice (some ⟨g, 0, none⟩) zl cap) zl (vals zs)) := fun W base g cap hh => by rw [← hzz]; rw [← hzz] at hh; exact hh
 generalize hsz : s.size = sl at *
 clear h hc hz hm hzz htl
 go_enter Tryz.func112, Tryz.ntmps112
 go_wp2_with fail
 refine HL.out.mono ?_
 rintro e w1 ⟨rfl, rfl⟩
 go_wp2_with fail
 rw [← Int.natCast_add]
 refine HR.out.mono ?_
 rintro e w2 ⟨rfl, hO, hB⟩
 go_wp2_with fail
 refine (HY.out w2 _ _ hO (by omega) hB).mono ?_
 rintro e w3 ⟨rfl, hO3, hB3⟩
 have HO3 := Lib.hid (HW.out _ _ _ _ hO3)
 have hb3 := hB.trans hB3
 have hg3 := (World.ownsRow.lt hO3 _ rfl).1
 have hs3 := hb3.size
 go_wp2_with (first
  | (at_builtin; refine Lib.wpList_append_fits_string _ rfl _ _ 79 9 rfl w1.heap.size 5 i0 Tryz.underlying79 Tryz.underlying9 hi hz1 _ _ _ _ rfl HO3.out s rfl (by omega) (by omega) ?_
     intro w4 hown hgrow
     have HO4 := Lib.hid (HT.out _ _ _ _ (by rw [hsz] at hown; exact hown))
     have hb4 := hb3.grown hgrow hs3 (fun k hk => by cases hk; exact hg3)
     clear hown hgrow)
  | go_in)
 go_ret
 exact ⟨_, _, rfl, HO4.out, hb4⟩
end Go.Proofs.YtalmanfjiblhcaaGreat.Rw
namespace Go.Proofs.YtalmanfjiblhcaaGreat.Rw
open Go.RowKit Go.Sort
theorem int_zz {n : Int} (h0 : -9223372036854775808 ≤ n) (h1 : n ≤ 9223372036854775807) : (zz n : Int) = if n < 0 then -2 * n - 1 else 2 * n := by
 unfold zz
 split <;> omega
set_option maxRecDepth 100000 in
set_option maxHeartbeats 1000000 in
theorem appI_ (a : Option Addr) (xs : List Nat) (c l : Nat) (n : Int) (w : World) (hl : xs.length = l) (h : BytesIn w a xs) (hc : a = none → c = 0) (h0 : -9223372036854775808 ≤ n) (h1 : n ≤ 9223372036854775807) (hlim : xs.length ≤ 281474976710646) :
 Calls Tryz.prog 111 #[.slice a l c, .int .i64 n] w (Laid w (xs ++ enc (zz n))) := by
 have HU := Lib.hid (appU_ a xs c (zz n) l w hl h hc (zz_lt n h0 h1) hlim)
 have hz := int_zz h0 h1
 generalize xs ++ enc (zz n) = es at *
 generalize zz n = z at *
 clear h hc hlim
 by_cases hneg : n < 0
 · rw [if_pos hneg] at hz
   have hnot := not64 n h0 h1
   go_enter Tryz.func111, Tryz.ntmps111
   go_wp2_with fail
   have e : IntKind.u64.wrap (IntKind.u64.wrap (2 * IntKind.u64.wrap (-n - 1)) + 1) = z := by simp only [IntKind.wrap_u64]; omega
   rw [e]
   refine HU.out.mono ?_
   rintro e w1 ⟨g, c1, rfl, h2, h3⟩
   go_wp2_with fail
   go_ret
   exact ⟨g, c1, rfl, h2, h3⟩
 · rw [if_neg hneg] at hz
   go_enter Tryz.func111, Tryz.ntmps111
   go_wp2_with fail
   rw [← hz]
   refine HU.out.mono ?_
   rintro e w1 ⟨g, c1, rfl, h2, h3⟩
   go_wp2_with fail
   go_ret
   exact ⟨g, c1, rfl, h2, h3⟩
set_option maxRecDepth 100000 in
set_option maxHeartbeats 1000000 in
theorem pint_ (a : Option Addr) (xs : List Nat) (c : Nat) (w : World) (h : BytesIn w a xs) (hb : ∀ x ∈ xs, x < 256) (hlim : xs.length ≤ 9223372036854775807) :
 Calls Tryz.prog 148 #[.slice a xs.length c] w fun e w' => e = .returned (.tuple #[.int .i64 (rdI xs).1, .int .i64 (rdI xs).2.1, errK (rdI xs).2.2]) ∧ w' = w := by
 have HU := Lib.hid (uint_ a xs c w h hb hlim)
 have hlt := (rdU_lt xs hb).1
 have herr := rdU_err xs
 unfold rdI
 generalize rdU xs = R at *
 obtain ⟨v, k, e⟩ := R
 clear h hb
 generalize xs.length = len at *
 simp only at herr hlt
 by_cases he : e = 0
 · subst he
   by_cases hm : v % 2 = 1
   · have hu : unzz v = -((v : Int) / 2) - 1 := by unfold unzz; rw [if_pos hm]; omega
     have hi1 : ((v : Int) % 2 == 1) = true := by rw [beq_iff_eq]; omega
     have hnot := not64 ((v : Int) / 2) (by omega) (by omega)
     rw [hu]
     clear hu herr
     go_enter Tryz.func148, Tryz.ntmps148
     go_wp2_with fail
     refine HU.out.mono ?_
     rintro e w1 ⟨rfl, rfl⟩
     unfold errK
     rw [if_pos rfl]
     go_wp2_with fail
     go_ret3
     exact ⟨rfl, rfl⟩
   · have hu : unzz v = (v : Int) / 2 := by unfold unzz; rw [if_neg hm]; omega
     have hi1 : ((v : Int) % 2 == 1) = false := by rw [beq_eq_false_iff_ne]; omega
     rw [hu]
     clear hu herr
     go_enter Tryz.func148, Tryz.ntmps148
     go_wp2_with fail
     refine HU.out.mono ?_
     rintro e w1 ⟨rfl, rfl⟩
     unfold errK
     rw [if_pos rfl]
     go_wp2_with fail
     go_ret3
     exact ⟨rfl, rfl⟩
 · obtain ⟨rfl, rfl⟩ := herr he
   have hu : unzz 0 = 0 := rfl
   rw [hu]
   simp only [errK_not he] at HU ⊢
   go_enter Tryz.func148, Tryz.ntmps148
   go_wp2_with fail
   refine HU.out.mono ?_
   rintro e w1 ⟨rfl, rfl⟩
   go_wp2_with fail
   go_ret3
   exact ⟨rfl, rfl⟩
end Go.Proofs.YtalmanfjiblhcaaGreat.Rw
