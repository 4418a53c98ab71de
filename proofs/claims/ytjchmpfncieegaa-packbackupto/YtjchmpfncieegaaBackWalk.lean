/- The walk of the law PackBack. -/
import Derived.Test.YtjchmpfncieegaaLaysWalk
namespace Go.Proofs.Ytjchmpfncieegaa
open Go.RowKit Go.Sort

/-- append(row, bytes...): the row has something; the bytes may be none. -/
theorem wpList_append_bytes (w : World) {ops : Array Oper} {rest : List Oper} {o : Oper} {act : Act} {Q : Exit → Act → World → Prop} (hgd : o.guard = none) (s x : Operand)
    (ho : o.op = .call { callee := .builtin .append, args := #[s, x], argTypes := #[22, 22] }) (base g c l lz : Nat) (es ys zs : List Nat) (hs : act.eval s = .slice (some ⟨g, 0, none⟩) l c) (hl : es.length = l) (hzs : es ++ ys = zs) (hlz : zs.length = lz) (hown : Own w base (.slice (some ⟨g, 0, none⟩) l c) es)
    (a : Option Addr) (m c' : Nat) (hx : act.eval x = .slice a m c') (hm : ys.length = m) (hnil : a = none → c' = 0) (hin : BytesIn w a ys) (hp : 0 < l) (hbytes : l + m ≤ 140737488355328) (hbase : base ≤ w.heap.size)
    (hK : ∀ g' c'' w', Own w' base (.slice (some ⟨g', 0, none⟩) lz c'') zs → w.grownBy w' (some g) → wpList Try.prog ops Q rest (act.put o.dst (.slice (some ⟨g', 0, none⟩) lz c'')) w') : wpList Try.prog ops Q (o :: rest) act w := by
  obtain ⟨i0, hi, hz0, hz1, hz2⟩ := info_parts infoB
  subst hm hl hlz hzs
  cases a with
  | none =>
    obtain rfl := bytes_none hin
    obtain rfl := hnil rfl
    refine wpList_plain hgd fun K hK' => ?_
    have hrun := run_append_owned_none (P := Try.prog) w base 22 o.type 5 i0 1 Try.underlying22 hi _ _ _ hown
    unfold Oper.wp
    simp only [List.length_nil] at hx
    simp [execOp, ho, resolve, invoke, builtin, hs, hx, hrun, Result.andThen]
    have := hK g c w (by rw [List.append_nil]; exact hown) ⟨rfl, rfl, rfl, Nat.le_refl _, fun _ _ _ => rfl⟩
    rw [List.append_nil] at this
    exact hK' _ _ this
  | some ad =>
    refine wpList_append_own w hgd s x 22 ho base 5 i0 (.int .u8 0) 1 1 Try.underlying22 hi hz0 hz1 hz2 rfl (by decide) _ es.length (vals es) hs hown ad ys.length c' (vals ys) hx (by rw [vals_len]; omega) hin.news (vals_one ys) (by unfold maxLen; omega) (by omega) hbase ?_
    intro v' w' hown' hgrow _
    obtain ⟨g', c'', rfl, hO⟩ := own_some (own_join rfl rfl hown') (by rw [List.length_append]; omega)
    exact hK g' c'' w' hO hgrow

theorem rdI_back (n : Int) (ys : List Nat) (h0 : -9223372036854775808 ≤ n) (h1 : n ≤ 9223372036854775807) : rdI (enc (zz n) ++ ys) = (n, (enc (zz n)).length, 0) := by
  unfold rdI
  rw [rdU_enc _ _ (zz_lt n h0 h1)]
  simp only [unzz_zz]
theorem rdT_back (s : ByteArray) (ys : List Nat) (h : s.size < 9223372036854775808) : rdT (enc s.size ++ sb s ++ ys) s.size = (sb s, (enc s.size).length + s.size, 0) := by
  unfold rdT
  rw [List.append_assoc, rdU_enc _ _ (by omega), if_neg (by omega), if_neg (by simp), if_neg (by simp), if_neg (by simp [sb_length])]
  simp only [Prod.mk.injEq, and_true]
  rw [List.drop_left, ← sb_length, List.take_left]
theorem Own.cap {w : World} {base g n c : Nat} {xs : List Nat} (h : Own w base (.slice (some ⟨g, 0, none⟩) n c) xs) : xs.length ≤ c := by
  rcases h.2 with ⟨h', _⟩ | ⟨g', cap', cur, h', _, _, hnc, _⟩
  · cases h'
  · cases h'
    exact hnc

/-- string(x[k:]). -/
theorem conv_rest (w : World) (g k l c : Nat) (xs X : List Nat) (h : BytesIn w (some ⟨g, 0, none⟩) X) (hl : X.length = l) (hk : k ≤ l) (hc : l ≤ c) (hd : X.drop k = xs) :
    (convert 22 9 (.slice (if c = k then some ⟨g, 0, none⟩ else some ⟨g, k, none⟩) (l - k) (c - k))).run Try.prog w = .ok (.string (bs xs)) w := by
  have hxl : l - k = xs.length := by rw [← hd, List.length_drop, hl]
  by_cases hck : c = k
  · rw [if_pos hck]
    have hx : xs = [] := List.eq_nil_of_length_eq_zero (by omega)
    subst hx
    exact conv_ w _ _ _ [] hxl (bytesIn_nil _ _)
  · rw [if_neg hck]
    refine conv_ w _ _ _ xs hxl ?_
    have hp := h.part (k := k) (n := l - k) (by omega)
    rw [hd, hxl, List.take_length, Nat.zero_add] at hp
    exact hp
set_option maxRecDepth 100000 in
set_option maxHeartbeats 4000000 in
theorem back_ (a : Option Addr) (xs : List Nat) (c : Nat) (n : Int) (s : ByteArray) (w : World) (h : BytesIn w a xs) (hb : ∀ x ∈ xs, x < 256) (hc : a = none → c = 0) (hcap : xs.length ≤ c) (hlim : xs.length ≤ 1048576) (hs : s.size ≤ 1048576)
    (h0 : -9223372036854775808 ≤ n) (h1 : n ≤ 9223372036854775807) :
    Calls Try.prog 4 #[.int .i64 n, .string s, .slice a xs.length c] w fun e w' => e = .returned (.bool true) ∧ Below w.heap.size w w' := by
  have hzl := enc_le10 (zz n) (zz_lt n h0 h1)
  have hzp := enc_pos (zz n)
  have hsl := enc_le10 s.size (by omega)
  have hsp := enc_pos s.size
  have HI : Hid (Calls Try.prog 8 #[.slice none 0 0, .int .i64 n] w (Laid w (enc (zz n)))) := appI_ none [] 0 0 n w rfl (bytesIn_nil _ _) (fun _ => rfl) h0 h1 (by decide)
  have HT : Hid (∀ W, Calls Try.prog 9 #[.slice none 0 0, .string s] W (Laid W (enc s.size ++ sb s))) := fun W => appT_ none [] 0 0 s W rfl (bytesIn_nil _ _) (fun _ => rfl) (by simp; omega)
  have hbX : ∀ x ∈ enc (zz n) ++ xs, x < 256 := fun x hx => by
    rcases List.mem_append.1 hx with h | h
    · exact enc_byte _ x h
    · exact hb x h
  have hbY : ∀ x ∈ enc s.size ++ sb s ++ xs, x < 256 := fun x hx => by
    rcases List.mem_append.1 hx with h | h
    · rcases List.mem_append.1 h with h | h
      · exact enc_byte _ x h
      · exact sb_byte s x h
    · exact hb x h
  have HRI : Hid (∀ W g c, BytesIn W (some ⟨g, 0, none⟩) (enc (zz n) ++ xs) → Calls Try.prog 15 #[.slice (some ⟨g, 0, none⟩) (enc (zz n) ++ xs).length c] W fun e w' => e = .returned (.tuple #[.int .i64 n, .int .i64 (enc (zz n)).length, .nilIface]) ∧ w' = W) := fun W g c hW => by
    have := int_ (some ⟨g, 0, none⟩) (enc (zz n) ++ xs) c W hW hbX (by simp; omega)
    rw [rdI_back n xs h0 h1] at this
    exact this
  have HRT : Hid (∀ W g c, BytesIn W (some ⟨g, 0, none⟩) (enc s.size ++ sb s ++ xs) → (enc s.size ++ sb s ++ xs).length ≤ c → Calls Try.prog 16 #[.slice (some ⟨g, 0, none⟩) (enc s.size ++ sb s ++ xs).length c, .int .i64 s.size] W fun e w' => e = .returned (.tuple #[.string s, .int .i64 ((enc s.size).length + s.size : Nat), .nilIface]) ∧ w' = W) := fun W g c hW hc => by
    have := text_ (some ⟨g, 0, none⟩) (enc s.size ++ sb s ++ xs) c s.size W hW hbY (by simp [sb_length]; omega) (by omega) (by omega) hc
    rw [rdT_back s xs (by omega)] at this
    simp only [bs_sb] at this
    exact this
  have HTW : Hid (∀ W, BytesIn W a xs → Calls Try.prog 6 #[.slice a xs.length c] W fun e w' => e = .returned (.slice (some ⟨W.heap.size, 0, none⟩) xs.length (xs.length + 30)) ∧ BytesIn w' (some ⟨W.heap.size, 0, none⟩) xs ∧ Below W.heap.size W w') := fun W hW => (twin_ a xs c W hW hc (by omega)).mono fun e w' hh => ⟨hh.1, hh.2.1.cells.2.1, hh.2.2⟩
  have HUI : Hid (∀ W g c', BytesIn W (some ⟨g, 0, none⟩) xs → Calls Try.prog 17 #[.slice (some ⟨g, 0, none⟩) xs.length c'] W fun e w' => e = .returned (.tuple #[.int .u64 (rdU xs).1, .int .i64 (rdU xs).2.1, errV (rdU xs).2.2]) ∧ w' = W) := fun W g c' hW => uint_ _ xs c' W hW hb (by omega)
  have HAU : Hid ((rdU xs).2.2 = 0 → ∀ W, Calls Try.prog 7 #[.slice none 0 0, .int .u64 (rdU xs).1] W (Told W (bs (xs.take (rdU xs).2.1)) (xs.take (rdU xs).2.1).length)) := fun he W => by
    obtain ⟨e1, _, _, e4⟩ := rdU_back xs hb he
    rw [← e1]
    exact (appU_ none [] 0 (rdU xs).1 0 W rfl (bytesIn_nil _ _) (fun _ => rfl) e4 (by decide)).mono fun e w' hh => told_of rfl rfl hh
  have HRB : Hid ((rdU xs).2.2 = 0 → 0 < (rdU xs).2.1 ∧ (rdU xs).2.1 ≤ xs.length) := fun he => ⟨(rdU_back xs hb he).2.1, (rdU_back xs hb he).2.2.1⟩
  have HRE : Hid ((rdU xs).2.2 ≠ 0 → (rdU xs).1 = 0 ∧ (rdU xs).2.1 = 0) := rdU_err xs
  have HSU : Hid (∀ W, Calls Try.prog 14 #[] W fun e w' => e = .returned (.bool true) ∧ Below W.heap.size W w') := sure_
  have hvlt := (rdU_lt xs hb).1
  generalize hR : rdU xs = R at *
  clear hR
  obtain ⟨v, i, er⟩ := R
  simp only at HUI HAU HRB HRE hvlt
  have hdX : (enc (zz n) ++ xs).drop (enc (zz n)).length = xs := List.drop_left
  have hdY : (enc s.size ++ sb s ++ xs).drop ((enc s.size).length + s.size) = xs := by rw [← sb_length s, ← List.length_append, List.drop_left]
  have hlX : (enc (zz n) ++ xs).length = (enc (zz n)).length + xs.length := List.length_append ..
  have hlY : (enc s.size ++ sb s ++ xs).length = (enc s.size).length + s.size + xs.length := by rw [List.length_append, List.length_append, sb_length]
  have HB := Lib.hid h
  have Hb := Lib.hid hb
  have hyl : (enc s.size ++ sb s).length = (enc s.size).length + s.size := by rw [List.length_append, sb_length]
  generalize hX : enc (zz n) ++ xs = X at *
  generalize hY : enc s.size ++ sb s ++ xs = Y at *
  generalize hE : enc (zz n) = E at *
  generalize hF : enc s.size ++ sb s = F at *
  have HX := Lib.hid hX
  have HY := Lib.hid hY
  have HdX := Lib.hid hdX
  have HdY := Lib.hid hdY
  have HlX := Lib.hid hlX
  have HlY := Lib.hid hlY
  have hFp : 0 < F.length := by omega
  have hFl : F.length ≤ 1048586 := by omega
  have hXle : X.length ≤ 1048586 := by omega
  have hYle : Y.length ≤ 2097162 := by omega
  have hk1X : E.length ≤ X.length := by omega
  have hk2Y : F.length ≤ Y.length := by omega
  rw [← hyl] at HRT HdY HlY
  clear hX hY hdX hdY hlX hlY h hb hbX hbY hsl hsp hyl
  have HCnil := Lib.hid hc
  clear hc
  have HXL : Hid (xs.length = xs.length) := Lib.hid rfl
  have HEL : Hid (E.length = E.length) := Lib.hid rfl
  have HFL : Hid (F.length = F.length) := Lib.hid rfl
  have HXX : Hid (X.length = X.length) := Lib.hid rfl
  have HYY : Hid (Y.length = Y.length) := Lib.hid rfl
  obtain ⟨len, hlen⟩ : ∃ len, xs.length = len := ⟨_, rfl⟩
  obtain ⟨k1, hk1⟩ : ∃ k1, E.length = k1 := ⟨_, rfl⟩
  obtain ⟨k2, hk2⟩ : ∃ k2, F.length = k2 := ⟨_, rfl⟩
  obtain ⟨lx, hlx⟩ : ∃ lx, X.length = lx := ⟨_, rfl⟩
  obtain ⟨ly, hly⟩ : ∃ ly, Y.length = ly := ⟨_, rfl⟩
  rw [hlen] at hcap hlim HlX HlY HXL HTW HUI HRB ⊢
  rw [hk1] at hzl hzp HRI HdX HlX HEL hk1X
  rw [hk2] at hFp hFl HRT HdY HlY HFL hk2Y
  rw [hlx] at hXle HRI HlX HXX hk1X
  rw [hly] at hYle HRT HlY HYY hk2Y
  replace HXL := Lib.hid hlen
  replace HEL := Lib.hid hk1
  replace HFL := Lib.hid hk2
  replace HXX := Lib.hid hlx
  replace HYY := Lib.hid hly
  clear hlen hk1 hk2 hlx hly hE hF
  go_enter Try.func4, Try.ntmps4
  go_wp2_with fail
  refine HI.out.mono ?_
  rintro e W1 ⟨gx, cx, rfl, hO1, hb1⟩
  rw [HEL.out] at hO1 ⊢
  have HO1 := Lib.hid hO1
  have Hb1 := Lib.hid hb1
  have hs1 := hb1.size
  clear hO1 hb1 HI
  go_wp2_with (first
    | (at_builtin; refine wpList_append_bytes _ rfl _ _ rfl w.heap.size gx cx k1 lx E xs X rfl HEL.out HX.out HXX.out HO1.out a len c rfl HXL.out HCnil.out (HB.out.on Hb1.out) (by omega) (by omega) hs1 ?_
       intro gx' cx' W2 hO2 hgrow2
       have HO2 := Lib.hid hO2
       have Hb2 := Lib.hid (Hb1.out.grown hgrow2 hs1 (fun k hk => by cases hk; exact (World.ownsRow.lt HO1.out gx rfl).1))
       clear hO2 hgrow2 HO1 Hb1 hs1)
    | fail)
  refine (HT.out _).mono ?_
  rintro e W3 ⟨gy, cy, rfl, hO3, hb3⟩
  rw [HFL.out] at hO3 ⊢
  have HO3 := Lib.hid hO3
  have Hb3 := Lib.hid hb3
  have hs3 := hb3.size
  clear hO3 hb3 HT
  go_wp2_with (first
    | (at_builtin; refine wpList_append_bytes _ rfl _ _ rfl W2.heap.size gy cy k2 ly F xs Y rfl HFL.out HY.out HYY.out HO3.out a len c rfl HXL.out HCnil.out (HB.out.on (below_step Hb2.out Hb3.out)) (by omega) (by omega) hs3 ?_
       intro gy' cy' W4 hO4 hgrow4
       have HO4 := Lib.hid hO4
       have Hb4 := Lib.hid (Hb3.out.grown hgrow4 hs3 (fun k hk => by cases hk; exact (World.ownsRow.lt HO3.out gy rfl).1))
       clear hO4 hgrow4 HO3 Hb3 hs3)
    | fail)
  have hxin := (HO2.out.on Hb4.out).cells.2.1
  have hyin := HO4.out.cells.2.1
  have hcx : lx ≤ cx' := by have := HO2.out.cap; rw [HXX.out] at this; exact this
  have hcy : ly ≤ cy' := by have := HO4.out.cap; rw [HYY.out] at this; exact this
  have HXI := Lib.hid hxin
  have HYI := Lib.hid hyin
  have Hb5 := Lib.hid (below_step Hb2.out Hb4.out)
  clear hxin hyin HO2 HO4 Hb2 Hb4
  refine (HRI.out W4 _ _ HXI.out).mono ?_
  rintro e W5 ⟨rfl, rfl⟩
  clear HRI
  go_wp2_with fail
  refine (HRT.out W5 _ _ HYI.out hcy).mono ?_
  rintro e W6 ⟨rfl, rfl⟩
  clear HRT
  go_wp2_with fail
  have hd1 : decide ((k1 : Int) < 1) = false := decide_eq_false (by omega)
  have hd2 : decide ((k2 : Int) < 1) = false := decide_eq_false (by omega)
  have hmx : min (k1 : Int) (lx : Int) = k1 := by omega
  have hmy : min (k2 : Int) (ly : Int) = k2 := by omega
  obtain ⟨s0, hs0⟩ : ∃ s0, bs xs = s0 := ⟨_, rfl⟩
  have Cb : ∀ W', Below W6.heap.size W6 W' → (convert 22 9 (.slice a len c)).run Try.prog W' = .ok (.string s0) W' := fun W' hW => by
    rw [← hs0]
    exact conv_ W' a len c xs HXL.out.symm (HB.out.on (below_step Hb5.out hW))
  have CX : ∀ W', Below W6.heap.size W6 W' → (convert 22 9 (.slice (if cx' = k1 then some ⟨gx', 0, none⟩ else some ⟨gx', k1, none⟩) (lx - k1) (cx' - k1))).run Try.prog W' = .ok (.string s0) W' := fun W' hW => by
    rw [← hs0]
    exact conv_rest W' gx' k1 lx cx' xs X (HXI.out.on hW) HXX.out hk1X hcx HdX.out
  have CY : ∀ W', Below W6.heap.size W6 W' → (convert 22 9 (.slice (if cy' = k2 then some ⟨gy', 0, none⟩ else some ⟨gy', k2, none⟩) (ly - k2) (cy' - k2))).run Try.prog W' = .ok (.string s0) W' := fun W' hW => by
    rw [← hs0]
    exact conv_rest W' gy' k2 ly cy' xs Y (HYI.out.on hW) HYY.out hk2Y hcy HdY.out
  refine wp_region_noPanic ?_
  go_region_held (fun W' => Below W6.heap.size W6 W') (first | assumption | exact below_drew _ | exact below_step (by assumption) (by assumption)) (fail)
  refine NoPanic.normal ?_
  have Hb7 := Lib.hid (below_step Hb5.out (below_drew W6))
  generalize W6.drew = W7 at *
  generalize (if cx' = k1 then (some ⟨gx', 0, none⟩ : Option Addr) else some ⟨gx', k1, none⟩) = ax at *
  generalize (if cy' = k2 then (some ⟨gy', 0, none⟩ : Option Addr) else some ⟨gy', k2, none⟩) = ay at *
  clear Cb CX CY hmx hmy hd1 hd2 hcx hcy HXI HYI Hb5 HX HY HdX HdY HlX HlY HEL HFL HXX HYY hXle hYle hk1X hk2Y hFl hFp hzl hzp
  go_wp2_with fail
  refine (HTW.out W7 (HB.out.on Hb7.out)).mono ?_
  rintro e W8 ⟨rfl, hB8, hb8⟩
  have HB8 := Lib.hid hB8
  have Hb8 := Lib.hid (below_step Hb7.out hb8)
  clear hB8 hb8 HTW Hb7
  go_wp2_with fail
  refine (HUI.out W8 _ _ HB8.out).mono ?_
  rintro e W9 ⟨rfl, rfl⟩
  by_cases he : er = 0
  · subst he
    obtain ⟨hi1, hi2⟩ := HRB.out rfl
    have HA := Lib.hid (HAU.out rfl)
    unfold errV
    rw [if_pos rfl]
    obtain ⟨b0, o0, rfl, _⟩ := HB.out 0 (by rw [HXL.out]; omega)
    have hpart := HB.out.part (k := 0) (n := i) (by rw [HXL.out]; omega)
    rw [List.drop_zero, Nat.add_zero] at hpart
    have htl : i = (xs.take i).length := by rw [List.length_take, HXL.out]; omega
    have CI : ∀ W', Below W9.heap.size W9 W' → (convert 22 9 (.slice (some ⟨b0, o0, none⟩) i c)).run Try.prog W' = .ok (.string (bs (xs.take i))) W' := fun W' hW => conv_ W' _ i c _ htl (hpart.on (below_step Hb8.out hW))
    have hg1 : decide (1 ≤ (i : Int)) = true := decide_eq_true (by omega)
    have hg2 : decide ((i : Int) ≤ len) = true := decide_eq_true (by omega)
    have hic : (i : Int) ≤ c := by omega
    have hi0 : (0 : Int) ≤ (i : Int) := by omega
    generalize bs (xs.take i) = t0 at *
    generalize (xs.take i).length = tl at *
    clear HRB HRE HAU HUI HB8 htl hpart
    go_wp2_with fail
    refine wp_region_noPanic ?_
    go_region_held (fun W' => Below W9.heap.size W9 W') (first | assumption | exact below_drew _ | exact below_step (by assumption) (by assumption))
      (first
        | (go_at_call 7; refine (HA.out _).mono ?_; rintro e w' ⟨g, c', rfl, hcv, hb⟩)
        | (go_at_call 14; refine (HSU.out _).mono ?_; rintro e w' ⟨rfl, hb⟩))
    refine NoPanic.normal ?_
    have hbE : Below W9.heap.size W9 w' := by assumption
    have HbE := Lib.hid (below_step Hb8.out hbE)
    clear hbE CI
    go_wp2_with fail
    go_ret
    exact ⟨rfl, HbE.out⟩
  · obtain ⟨rfl, rfl⟩ := HRE.out he
    rw [errV_not he]
    clear HRB HRE HAU HUI HB8
    go_wp2_with fail
    refine (HSU.out _).mono ?_
    rintro e W10 ⟨rfl, hb10⟩
    have Hb10 := Lib.hid (below_step Hb8.out hb10)
    clear hb10
    go_wp2_with fail
    go_ret
    exact ⟨rfl, Hb10.out⟩
end Go.Proofs.Ytjchmpfncieegaa
