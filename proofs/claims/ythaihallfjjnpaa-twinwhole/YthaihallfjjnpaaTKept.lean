/- Texts saved one behind the other on a device of twelve sectors, plainly: what both halves hold; what a crash while one is saved leaves. -/
import Derived.Test.YthaihallfjjnpaaTSave
namespace Go.Proofs.Ythaihallfjjnpaa

/-- The area that the laws work on: two halves of q sectors. -/
def arS (q : Nat) : Ar := ⟨0, 0, 2 * q⟩
theorem half_s (q : Nat) : (arS q).s / 2 = q := by show (2 * (q : Int)) / 2 = q; omega
theorem beg_s (q h : Nat) : begA (arS q) h = h * q := by unfold begA; rw [half_s]; show (0 : Int) + _ = _; omega
theorem half_eq (q : Nat) (d : Dev) (h : Nat) : halfA d (arS q) h = secsB d 0 (begA (arS q) h) q := by unfold halfA; rw [half_s]; rfl
theorem room_eq (q : Nat) (h1 : 1 ≤ q) (h2 : q ≤ 8192) : roomA (arS q) = 64 * q - 24 := by
  unfold roomA
  rw [half_s, if_neg (by show ¬ (2 * (q : Int) < 2 ∨ 16384 < 2 * (q : Int)); omega)]
  omega
/-- A device of one region and of these sectors on which nothing is pending. -/
structure Still (q : Nat) (d : Dev) : Prop where
  ok : okD d
  r : d.r = 1
  s : d.s = 2 * q
  pend : d.pend = []
  cr : d.crashed = false
  qb : q ≤ 100
theorem still_inA {q : Nat} {d : Dev} (hq : 1 ≤ q) (h : Still q d) : inA d (arS q) := by
  refine ⟨Int.le_refl _, ?_, Int.le_refl _, ?_, ?_, ?_⟩
  · rw [h.r]; show (0 : Int) < 1; decide
  · show 2 ≤ 2 * (q : Int); omega
  · rw [h.s]; exact Int.le_refl _
  · rw [h.s]; show (0 : Int) ≤ 2 * (q : Int) - 2 * (q : Int); omega
theorem still_look {q : Nat} {d : Dev} (hq : 1 ≤ q) (h : Still q d) : lookE d (arS q) = 0 := by
  unfold lookE
  rw [if_neg (fun e => e (still_inA hq h)), if_neg (by rw [h.cr]; simp)]
/-- i texts were saved, the last one is t. -/
structure Tw (q : Nat) (d : Dev) (i : Nat) (t : List Nat) : Prop where
  st : Still q d
  none : i = 0 → numA d (arS q) 0 = 0 ∧ numA d (arS q) 1 = 0
  some : i ≠ 0 → heldB (halfA d (arS q) ((i + 1) % 2)) = (i, t) ∧ numA d (arS q) (i % 2) = i - 1
theorem Tw.tells {q : Nat} {d : Dev} {i : Nat} {t : List Nat} (h : Tw q d i t) (hi : i ≠ 0) : tellA d (arS q) = (i + 1) % 2 ∧ topA d (arS q) = i ∧ txtA d (arS q) (tellA d (arS q)) = t := by
  obtain ⟨h1, h2⟩ := h.some hi
  have e1 : numA d (arS q) ((i + 1) % 2) = i := by unfold numA; rw [h1]
  have e2 : txtA d (arS q) ((i + 1) % 2) = t := by unfold txtA; rw [h1]
  have ht : tellA d (arS q) = (i + 1) % 2 := by
    unfold tellA
    rcases Nat.mod_two_eq_zero_or_one i with hp | hp
    · have hq : (i + 1) % 2 = 1 := by omega
      rw [hp] at h2; rw [hq] at e1 ⊢
      rw [if_pos (by omega)]
    · have hq : (i + 1) % 2 = 0 := by omega
      rw [hp] at h2; rw [hq] at e1 ⊢
      rw [if_neg (by omega)]
  exact ⟨ht, by unfold topA; rw [ht, e1], by rw [ht, e2]⟩
theorem Tw.top0 {q : Nat} {d : Dev} {t : List Nat} (h : Tw q d 0 t) : tellA d (arS q) = 0 ∧ topA d (arS q) = 0 := by
  obtain ⟨h1, h2⟩ := h.none rfl
  have ht : tellA d (arS q) = 0 := by unfold tellA; rw [if_neg (by omega)]
  exact ⟨ht, by unfold topA; rw [ht, h1]⟩
theorem Tw.next {q : Nat} {d : Dev} {i : Nat} {t : List Nat} (h : Tw q d i t) (hl : i < 1000) : nextH d (arS q) = i % 2 ∧ nextN d (arS q) = i + 1 := by
  unfold nextH nextN
  by_cases hi : i = 0
  · subst hi
    obtain ⟨h1, h2⟩ := h.top0
    rw [if_pos h2, if_pos h2]
    exact ⟨rfl, rfl⟩
  · obtain ⟨h1, h2, _⟩ := h.tells hi
    rw [if_neg (by omega), if_neg (by omega), h1, h2]
    omega
/-- The numbers of both halves. -/
theorem Tw.both {q : Nat} {d : Dev} {i : Nat} {t : List Nat} (h : Tw q d i t) (hi : i ≠ 0) : max (numA d (arS q) 0) (numA d (arS q) 1) = i ∧ min (numA d (arS q) 0) (numA d (arS q) 1) = i - 1 := by
  obtain ⟨h1, h2⟩ := h.some hi
  have e1 : numA d (arS q) ((i + 1) % 2) = i := by unfold numA; rw [h1]
  rcases Nat.mod_two_eq_zero_or_one i with hp | hp
  · have hq : (i + 1) % 2 = 1 := by omega
    rw [hp] at h2; rw [hq] at e1
    omega
  · have hq : (i + 1) % 2 = 0 := by omega
    rw [hp] at h2; rw [hq] at e1
    omega
theorem laid_parts {q n : Nat} {xs : List Nat} (hn : n < 128) (hl : xs.length ≤ 360) (hq : xs.length + 24 ≤ 64 * q) : (chk (laidB n xs)).length ≤ q ∧ chk (laidB n xs) ≠ [] := by
  have h1 : (enc n).length = 1 := by rw [enc_lt hn]; rfl
  have h2 : (enc xs.length).length ≤ 2 := Nat.le_trans (enc_mono 360 xs.length hl) (by rw [enc_ge (by omega), enc_lt (by omega)]; simp)
  have h3 := laidB_len n xs
  have h4 := chk_len (laidB n xs)
  refine ⟨by omega, fun e => ?_⟩
  rw [e] at h4
  simp only [List.length_nil] at h4
  omega
/-- What a text that is laid into a half leaves, with or without a crash, behind a restart. -/
theorem laid_left {q : Nat} {d : Dev} (hs : Still q d) (h n : Nat) (xs : List Nat) (hh : h < 2) (hn : n < 128) (h0 : n ≠ 0) (hl : xs.length ≤ 360) (hq : xs.length + 24 ≤ 64 * q) (hx : ∀ x ∈ xs, x < 256) (W : Dev × Nat) (hW : W = wrL d 0 (begA (arS q) h) (chk (laidB n xs))) (ns : List Int) (d2 : Dev) (hd2 : d2 = if W.2 ≠ 0 then W.1 else syncD W.1 0) :
    Still q (restartD d2 ns) ∧ halfA (restartD d2 ns) (arS q) (1 - h) = halfA d (arS q) (1 - h) ∧ (W.2 = 0 → sErr W.1 0 = 0 ∧ d2.pend = [] ∧ d2.crashed = false ∧ d2.armed = W.1.armed ∧ okD d2 ∧ d2.r = 1 ∧ d2.s = 2 * (q : Int) ∧ heldB (halfA (restartD d2 ns) (arS q) h) = (n, xs) ∧ ∀ k, readD d2 k = readD (restartD d2 ns) k) := by
  obtain ⟨hp1, hp2⟩ := laid_parts hn hl hq
  have hb : (begA (arS q) h : Int) = 0 ∧ h = 0 ∨ (begA (arS q) h : Int) = q ∧ h = 1 := by
    have : h = 0 ∨ h = 1 := by omega
    rcases this with rfl | rfl
    · exact .inl ⟨by rw [beg_s]; simp, rfl⟩
    · exact .inr ⟨by rw [beg_s]; simp, rfl⟩
  have hb' : (begA (arS q) (1 - h) : Int) = q ∧ h = 0 ∨ (begA (arS q) (1 - h) : Int) = 0 ∧ h = 1 := by
    have : h = 0 ∨ h = 1 := by omega
    rcases this with rfl | rfl
    · exact .inl ⟨by rw [beg_s]; simp, rfl⟩
    · exact .inr ⟨by rw [beg_s]; simp, rfl⟩
  obtain ⟨s1, s2, s3, s4⟩ := wrL_stays (chk (laidB n xs)) d 0 (begA (arS q) h)
  have ho := okD_wrL (chk (laidB n xs)) d 0 (begA (arS q) h) hs.ok (chk_byte _ (laidB_byte hx))
  have hg := wrL_good (chk (laidB n xs)) d 0 (begA (arS q) h)
  rw [← hW] at s1 s2 s3 s4 ho hg
  have hoth : ∀ i : Nat, i < q → getP W.1.pend (0, begA (arS q) (1 - h) + i) = none := fun i hi => by
    rw [s4 _ (fun j hj e => by simp only [Prod.mk.injEq, true_and] at e; omega), hs.pend]
    rfl
  have hsafe : ∀ i : Nat, i < q → readD d (0, begA (arS q) (1 - h) + i) = W.1.safe (0, begA (arS q) (1 - h) + i) := fun i _ => by
    unfold readD; rw [hs.pend, s1]; rfl
  by_cases he : W.2 = 0
  · obtain ⟨g1, g2⟩ := hg he (fun c hc => (chk_part _ c hc).2) (.inl hp2)
    have hse : sErr W.1 0 = 0 := by
      unfold sErr
      rw [if_neg (by rw [s2, hs.r]; simp), if_neg (by rw [g1]; simp)]
    have e2 : d2 = syncedD W.1 0 := by rw [hd2, if_neg (by simpa using he)]; unfold syncD; rw [if_pos hse]
    have hpe : d2.pend = [] := by
      rw [e2]
      show W.1.pend.filter (fun x => decide (x.1.1 ≠ 0)) = []
      rw [List.filter_eq_nil_iff]
      intro x hx
      have := ho.wid x hx
      have hr := hs.r
      unfold hasD at this
      rw [s2, hr] at this
      simp only [decide_eq_true_eq]
      omega
    have hrd : ∀ k, readD (restartD d2 ns) k = readD d2 k := fun k => by
      unfold readD
      rw [hpe]
      show (Option.none : Option Ct).getD (goR d2.safe d2.pend ns k) = _
      rw [hpe]
      simp [goR, getP_nil]
    have hod : okD d2 := by rw [e2]; exact okD_synced ho 0
    have hrs : ∀ k, readD (restartD d2 ns) k = readD W.1 k := fun k => by rw [hrd, e2, read_synced]
    refine ⟨⟨okD_restart hod ns, ?_, ?_, rfl, rfl, hs.qb⟩, ?_, fun _ => ⟨hse, hpe, ?_, ?_, hod, ?_, ?_, ?_, fun k => (hrd k).symm⟩⟩
    · show d2.r = 1; rw [e2]; exact s2.trans hs.r
    · show d2.s = 2 * (q : Int); rw [e2]; exact s3.trans hs.s
    · rw [half_eq q, half_eq q]
      refine secsB_congr fun i hi => ?_
      rw [hrs, hsafe i hi, read_safe (hoth i hi)]
    · rw [e2]; exact g1
    · rw [e2]; rfl
    · rw [e2]; exact s2.trans hs.r
    · rw [e2]; exact s3.trans hs.s
    · obtain ⟨rest, er⟩ := secsB_parts (restartD d2 ns) 0 (laidB n xs) (begA (arS q) h) q hp1 (fun i hi => by rw [hrs]; exact read_pend (g2 i hi))
      rw [half_eq q, er]
      exact held_laid n xs rest (by omega) h0 (by omega)
  · have e2 : d2 = W.1 := by rw [hd2, if_pos he]
    refine ⟨⟨?_, ?_, ?_, rfl, rfl, hs.qb⟩, ?_, fun e => absurd e he⟩
    · rw [e2]; exact okD_restart ho ns
    · show d2.r = 1; rw [e2]; exact s2.trans hs.r
    · show d2.s = 2 * (q : Int); rw [e2]; exact s3.trans hs.s
    · rw [half_eq q, half_eq q]
      refine secsB_congr fun i hi => ?_
      rw [hsafe i hi, e2]
      show (getP [] _).getD (goR W.1.safe W.1.pend ns _) = _
      rw [goR_other _ _ _ _ (hoth i hi)]
      rfl
theorem restart_still {q : Nat} {d : Dev} (hs : Still q d) (ns : List Int) : ∀ k, readD (restartD d ns) k = readD d k := fun k => by
  show (getP [] k).getD (goR d.safe d.pend ns k) = _
  unfold readD
  rw [hs.pend]
  simp [goR, getP_nil]
theorem half_congr {d d' : Dev} (h : ∀ k, readD d' k = readD d k) (a : Ar) (i : Nat) : halfA d' a i = halfA d a i := by
  unfold halfA
  exact secsB_congr fun _ _ => h _
/-- A text saved on a device that is not armed. -/
theorem Tw.save {q : Nat} {d : Dev} {i : Nat} {t xs : List Nat} (h : Tw q d i t) (hi : i < 100) (ha : d.armed = false) (hl : xs.length ≤ 360) (hq : xs.length + 24 ≤ 64 * q) (hx : ∀ x ∈ xs, x < 256) : saveE d (arS q) xs = 0 ∧ (saveD d (arS q) xs).armed = false ∧ Tw q (saveD d (arS q) xs) (i + 1) xs ∧ ∀ ns, Tw q (restartD (saveD d (arS q) xs) ns) (i + 1) xs := by
  obtain ⟨n1, n2⟩ := h.next (by omega)
  have hlk := still_look (by omega) h.st
  have hrm : ¬ roomA (arS q) < (xs.length : Int) := by rw [room_eq q (by omega) (by have := h.st.qb; omega)]; omega
  have hb : (begA (arS q) (i % 2) : Int) = 0 ∨ (begA (arS q) (i % 2) : Int) = q := by
    rcases Nat.mod_two_eq_zero_or_one i with e | e <;> rw [e, beg_s]
    · left; simp
    · right; simp
  obtain ⟨hp1, hp2⟩ := laid_parts (q := q) (n := i + 1) (xs := xs) (by omega) hl hq
  have hfree := wrL_free (chk (laidB (i + 1) xs)) d 0 (begA (arS q) (i % 2)) h.st.cr ha (by omega) (by rw [h.st.r]; omega) (by omega) (by rw [h.st.s]; omega) (fun c hc => (chk_part _ c hc).2)
  have eW : wroteD d (arS q) xs = wrL d 0 (begA (arS q) (i % 2)) (chk (laidB (i + 1) xs)) := by unfold wroteD; rw [n1, n2]; rfl
  have hE : saveE d (arS q) xs = sErr (wroteD d (arS q) xs).1 0 := by
    unfold saveE
    rw [if_neg (by simpa using hlk), if_neg hrm, if_neg (by rw [eW]; simpa using hfree.1)]
    rfl
  have hD : saveD d (arS q) xs = if (wroteD d (arS q) xs).2 ≠ 0 then (wroteD d (arS q) xs).1 else syncD (wroteD d (arS q) xs).1 0 := by
    unfold saveD
    rw [if_neg (by rintro (e | e); exact e hlk; exact hrm e)]
    rfl
  have key := fun ns => laid_left h.st (i % 2) (i + 1) xs (by omega) (by omega) (by omega) hl hq hx (wroteD d (arS q) xs) eW ns _ hD
  have hz : (wroteD d (arS q) xs).2 = 0 := by rw [eW]; exact hfree.1
  have hold : ∀ ns, Tw q (restartD (saveD d (arS q) xs) ns) (i + 1) xs := fun ns => by
    obtain ⟨k1, k2, k3⟩ := key ns
    obtain ⟨_, _, _, _, _, _, _, k4, _⟩ := k3 hz
    refine ⟨k1, fun e => by omega, fun _ => ⟨?_, ?_⟩⟩
    · rw [show (i + 1 + 1) % 2 = i % 2 by omega]; exact k4
    · have e1 : (i + 1) % 2 = 1 - i % 2 := by omega
      unfold numA
      rw [e1, k2]
      show numA d (arS q) (1 - i % 2) = _
      rw [← e1]
      by_cases hi0 : i = 0
      · subst hi0; exact (h.none rfl).2
      · have := (h.some hi0).1
        unfold numA; rw [this]; rfl
  obtain ⟨k1, k2, k3⟩ := key []
  obtain ⟨c1, c2, c3, c4, c5, c6, c7, c8, c9⟩ := k3 hz
  refine ⟨by rw [hE]; exact c1, by rw [c4, eW]; exact hfree.2, ?_, hold⟩
  have h0 := hold []
  have hcg := fun j => half_congr (fun k => c9 k) (arS q) j
  refine ⟨⟨c5, c6, c7, c2, c3, h.st.qb⟩, fun e => by omega, fun hne => ?_⟩
  obtain ⟨q1, q2⟩ := h0.some hne
  unfold numA at q2 ⊢
  rw [hcg, hcg]
  exact ⟨q1, q2⟩
/-- A text saved on an armed device, whatever a restart then leaves. -/
theorem Tw.crash {q : Nat} {d : Dev} {i : Nat} {t xs : List Nat} (h : Tw q d i t) (h0 : i ≠ 0) (hi : i < 100) (hl : xs.length ≤ 360) (hq : xs.length + 24 ≤ 64 * q) (hx : ∀ x ∈ xs, x < 256) (ns : List Int) :
    Still q (restartD (saveD d (arS q) xs) ns) ∧ heldB (halfA (restartD (saveD d (arS q) xs) ns) (arS q) ((i + 1) % 2)) = (i, t) ∧ (saveE d (arS q) xs = 0 → heldB (halfA (restartD (saveD d (arS q) xs) ns) (arS q) (i % 2)) = (i + 1, xs)) := by
  obtain ⟨n1, n2⟩ := h.next (by omega)
  have hlk := still_look (by omega) h.st
  have hrm : ¬ roomA (arS q) < (xs.length : Int) := by rw [room_eq q (by omega) (by have := h.st.qb; omega)]; omega
  have eW : wroteD d (arS q) xs = wrL d 0 (begA (arS q) (i % 2)) (chk (laidB (i + 1) xs)) := by unfold wroteD; rw [n1, n2]; rfl
  have hE : saveE d (arS q) xs = if (wroteD d (arS q) xs).2 ≠ 0 then (wroteD d (arS q) xs).2 else sErr (wroteD d (arS q) xs).1 0 := by
    unfold saveE
    rw [if_neg (by simpa using hlk), if_neg hrm]
    rfl
  have hD : saveD d (arS q) xs = if (wroteD d (arS q) xs).2 ≠ 0 then (wroteD d (arS q) xs).1 else syncD (wroteD d (arS q) xs).1 0 := by
    unfold saveD
    rw [if_neg (by rintro (e | e); exact e hlk; exact hrm e)]
    rfl
  obtain ⟨k1, k2, k3⟩ := laid_left h.st (i % 2) (i + 1) xs (by omega) (by omega) (by omega) hl hq hx (wroteD d (arS q) xs) eW ns _ hD
  refine ⟨k1, ?_, fun he => ?_⟩
  · have e1 : (i + 1) % 2 = 1 - i % 2 := by omega
    rw [e1, k2, ← e1]
    exact (h.some h0).1
  · have hz : (wroteD d (arS q) xs).2 = 0 := by
      rw [hE] at he
      split at he
      · assumption
      · rename_i hh; simpa using hh
    exact (k3 hz).2.2.2.2.2.2.2.1
/-- What is told behind a crash: the old text or the new one. -/
theorem Tw.told {q : Nat} {d : Dev} {i : Nat} {t xs : List Nat} (h : Tw q d i t) (h0 : i ≠ 0) (hi : i < 100) (hl : xs.length ≤ 360) (hq : xs.length + 24 ≤ 64 * q) (hx : ∀ x ∈ xs, x < 256) (ns : List Int) (d3 : Dev) (hd3 : d3 = restartD (saveD d (arS q) xs) ns)
    (l : List (List Nat)) (hll : l.length = i + 1) (hlt : l.getD (i - 1) [] = t) (hln : l.getD i [] = xs)
    (hr : ∀ j, j < 2 → (numA d3 (arS q) j = 0 ∨ (numA d3 (arS q) j ≤ i + 1 ∧ l.getD (numA d3 (arS q) j - 1) [] = txtA d3 (arS q) j))) :
    loadE d3 (arS q) = 0 ∧ (txtA d3 (arS q) (tellA d3 (arS q)) = xs ∨ (saveE d (arS q) xs ≠ 0 ∧ txtA d3 (arS q) (tellA d3 (arS q)) = t)) := by
  obtain ⟨c1, c2, c3⟩ := h.crash h0 hi hl hq hx ns
  rw [← hd3] at c1 c2 c3
  have o1 : numA d3 (arS q) ((i + 1) % 2) = i := by unfold numA; rw [c2]
  have o2 : txtA d3 (arS q) ((i + 1) % 2) = t := by unfold txtA; rw [c2]
  have hq := hr (i % 2) (by omega)
  have hpos : topA d3 (arS q) ≠ 0 ∧ (txtA d3 (arS q) (tellA d3 (arS q)) = xs ∨ (saveE d (arS q) xs ≠ 0 ∧ txtA d3 (arS q) (tellA d3 (arS q)) = t)) := by
    have hn : saveE d (arS q) xs = 0 → numA d3 (arS q) (i % 2) = i + 1 ∧ txtA d3 (arS q) (i % 2) = xs := fun he => by
      have := c3 he
      exact ⟨by unfold numA; rw [this], by unfold txtA; rw [this]⟩
    have hcase : numA d3 (arS q) (i % 2) ≤ i + 1 := by
      rcases hq with e | ⟨e, _⟩ <;> omega
    by_cases hnew : numA d3 (arS q) (i % 2) = i + 1
    · have htx : txtA d3 (arS q) (i % 2) = xs := by
        rcases hq with e | ⟨_, e⟩
        · omega
        · rw [← e, hnew]; exact hln
      have htell : tellA d3 (arS q) = i % 2 := by
        unfold tellA
        rcases Nat.mod_two_eq_zero_or_one i with hp | hp
        · have hq' : (i + 1) % 2 = 1 := by omega
          rw [hp] at hnew ⊢; rw [hq'] at o1
          rw [if_neg (by omega)]
        · have hq' : (i + 1) % 2 = 0 := by omega
          rw [hp] at hnew ⊢; rw [hq'] at o1
          rw [if_pos (by omega)]
      exact ⟨by unfold topA; rw [htell]; omega, .inl (by rw [htell]; exact htx)⟩
    · have hne : saveE d (arS q) xs ≠ 0 := fun he => hnew (hn he).1
      have hle : numA d3 (arS q) (i % 2) ≤ i := by omega
      have htell : txtA d3 (arS q) (tellA d3 (arS q)) = t ∧ topA d3 (arS q) = i := by
        by_cases heq : numA d3 (arS q) (i % 2) = i
        · have htx : txtA d3 (arS q) (i % 2) = t := by
            rcases hq with e | ⟨_, e⟩
            · omega
            · rw [← e, heq]; exact hlt
          have hall : ∀ j, j < 2 → txtA d3 (arS q) j = t ∧ numA d3 (arS q) j = i := fun j hj => by
            have : j = i % 2 ∨ j = (i + 1) % 2 := by omega
            rcases this with rfl | rfl
            · exact ⟨htx, heq⟩
            · exact ⟨o2, o1⟩
          have hlt2 : tellA d3 (arS q) < 2 := by unfold tellA; split <;> omega
          exact hall _ hlt2
        · have htell : tellA d3 (arS q) = (i + 1) % 2 := by
            unfold tellA
            rcases Nat.mod_two_eq_zero_or_one i with hp | hp
            · have hq' : (i + 1) % 2 = 1 := by omega
              rw [hp] at heq hle; rw [hq'] at o1 ⊢
              rw [if_pos (by omega)]
            · have hq' : (i + 1) % 2 = 0 := by omega
              rw [hp] at heq hle; rw [hq'] at o1 ⊢
              rw [if_neg (by omega)]
          exact ⟨by rw [htell]; exact o2, by unfold topA; rw [htell]; exact o1⟩
      exact ⟨by rw [htell.2]; exact h0, .inr ⟨hne, htell.1⟩⟩
  refine ⟨?_, hpos.2⟩
  unfold loadE
  rw [if_neg (by simpa using still_look (by omega) c1), if_neg hpos.1]
/-- A new device. -/
theorem held_zero (xs : List Nat) : heldB (0 :: xs) = (0, []) := by
  unfold heldB
  rw [if_pos (.inr rfl)]
theorem tw_new (q : Nat) (hq : 1 ≤ q) (hq2 : q ≤ 100) : Tw q (newD 1 (2 * q)) 0 [] := by
  have hz : ∀ j, numA (newD 1 (2 * q)) (arS q) j = 0 := fun j => by
    obtain ⟨m, rfl⟩ : ∃ m, q = m + 1 := ⟨q - 1, by omega⟩
    unfold numA
    rw [half_eq, secsB_succ]
    have e : readD (newD 1 (2 * ((m + 1 : Nat) : Int))) (0, begA (arS (m + 1)) j) = 0 :: List.replicate 63 0 := rfl
    rw [e, List.cons_append, held_zero]
  exact ⟨⟨okD_new _ _, rfl, rfl, rfl, rfl, hq2⟩, fun _ => ⟨hz 0, hz 1⟩, fun e => absurd rfl e⟩
end Go.Proofs.Ythaihallfjjnpaa
