/- The walk of order.Decode. -/
import Derived.Test.YtonbecjankghaaaDoorOFirst
namespace Go.Proofs.YtonbecjankghaaaDoor
open Go.RowKit Go.Sort

theorem ext_drop (s : ByteArray) (n : Nat) : (s.extract n s.size).data.toList = s.data.toList.drop n := by
  rw [ByteArray.data_extract, Array.toList_extract, List.extract_eq_take_drop, List.take_of_length_le]
  rw [List.length_drop, ← size_list]
  exact Nat.le_refl _
theorem list_cons {s : ByteArray} (h : 0 < s.size) : s.data.toList = s[0] :: (s.extract 1 s.size).data.toList := by
  have hl : 0 < s.data.toList.length := by rw [← size_list]; exact h
  rw [ext_drop]
  have := List.drop_eq_getElem_cons hl
  rw [List.drop_zero] at this
  exact this
/-- What first tells. -/
theorem first_ (s : ByteArray) (w : World) (hs : 0 < s.size) (hs2 : s.size ≤ 4294967000) (hm : ∃ m, w.cell? ⟨1, 0, none⟩ = some (.int .i64 m)) :
    Calls Tryd.prog 17 #[.string s] w fun e w' => ∃ (k n : Int) (t : ByteArray) (b : Bool) (r : ByteArray) (ok : Bool), e = .returned (.tuple #[.agg #[.int .i64 k, .int .i64 n, .string t, .bool b], .string r, .bool ok]) ∧ fst s.data.toList = (if ok = true then some (⟨k, n, t, b⟩, r.data.toList) else none) ∧ Below w.heap.size w w' := by
  have hl := list_cons hs
  obtain ⟨Q, hQ⟩ : ∃ Q, s.extract 1 s.size = Q := ⟨_, rfl⟩
  have hQl : Q.size ≤ 4294967000 := by
    rw [← hQ, size_list, ext_drop, List.length_drop, ← size_list]; omega
  rw [hQ] at hl
  rw [hl, fst]
  by_cases c1 : s[0].toNat = 1
  · refine (first_null s Q w hs hs2 hQ c1).mono fun e w' ⟨he, hb⟩ => ⟨_, _, _, _, _, _, he, ?_, hb⟩
    rw [if_pos c1]; rfl
  rw [if_neg c1]
  by_cases c2 : s[0].toNat = 2
  · rw [if_pos c2]
    by_cases h8 : 8 ≤ Q.size
    · refine (first_int s Q w hs hs2 hQ c2 h8 _ rfl).mono fun e w' ⟨he, hb⟩ => ⟨_, _, _, _, _, _, he, ?_, hb⟩
      rw [if_pos (by rw [← size_list]; exact h8), ext8, ext_drop]; rfl
    · refine (first_short s Q w hs hs2 hQ c2 h8).mono fun e w' ⟨he, hb⟩ => ⟨_, _, _, _, _, _, he, ?_, hb⟩
      rw [if_neg (by rw [← size_list]; exact h8)]; rfl
  rw [if_neg c2]
  by_cases c3 : s[0].toNat = 3
  · rw [if_pos c3]
    by_cases h0 : 0 ∈ Q.data.toList
    · refine (first_text s Q w hs hs2 hQ c3 ⟨(Q.data.toList.takeWhile (· != 0)).toArray⟩ ⟨((Q.data.toList.dropWhile (· != 0)).drop 1).toArray⟩ true (by rw [cut0, if_pos h0]) hQl hm).mono fun e w' ⟨he, hb⟩ => ⟨_, _, _, _, _, _, he, ?_, hb⟩
      rw [if_pos h0]; rfl
    · refine (first_text s Q w hs hs2 hQ c3 Q ⟨#[]⟩ false (by rw [cut0, if_neg h0]) hQl hm).mono fun e w' ⟨he, hb⟩ => ⟨_, _, _, _, _, _, he, ?_, hb⟩
      rw [if_neg h0]; rfl
  rw [if_neg c3]
  by_cases c4 : s[0].toNat = 4
  · rw [if_pos c4]
    by_cases hq : 0 < Q.size
    · have hql := list_cons hq
      rw [hql, fstB]
      by_cases hb1 : 1 < Q[0].toNat
      · refine (first_truth s Q w hs hs2 hQ c4 hq hb1).mono fun e w' ⟨he, hb⟩ => ⟨_, _, _, _, _, _, he, ?_, hb⟩
        rw [if_neg (by omega)]; rfl
      · rw [if_pos (by omega)]
        by_cases hb2 : Q[0].toNat = 1
        · refine (first_true s Q w hs hs2 hQ c4 hq hb2).mono fun e w' ⟨he, hb⟩ => ⟨_, _, _, _, _, _, he, ?_, hb⟩
          rw [hb2]; rfl
        · have hb3 : Q[0].toNat = 0 := by omega
          refine (first_false s Q w hs hs2 hQ c4 hq hb3).mono fun e w' ⟨he, hb⟩ => ⟨_, _, _, _, _, _, he, ?_, hb⟩
          rw [hb3]; rfl
    · have hq0 : Q = ⟨#[]⟩ := ba_empty (by omega)
      refine (first_empty s Q w hs hs2 hQ c4 hq0).mono fun e w' ⟨he, hb⟩ => ⟨_, _, _, _, _, _, he, ?_, hb⟩
      rw [hq0]; rfl
  · rw [if_neg c4]
    refine (first_else s Q w hs hs2 hQ _ rfl c1 c2 c3 c4).mono fun e w' ⟨he, hb⟩ => ⟨_, _, _, _, _, _, he, rfl, hb⟩
/-- What Decode tells. -/
def Decoded (w : World) (s : List UInt8) (e : Ending) (w' : World) : Prop :=
  ((∃ (l : List Val) (a : Option Addr) (c : Nat), IsTxt s l ∧ e = .returned (.tuple #[.slice a l.length c, .nilIface]) ∧ ValsIn w' a l) ∨ ((∀ l, ¬ IsTxt s l) ∧ e = .returned (.tuple #[.slice none 0 0, .iface 43 (.int .i64 3)]))) ∧ Below w.heap.size w w'
def strOf : Value → ByteArray | .string s => s | _ => ⟨#[]⟩
/-- What is left and can't be read: then the text is none. -/
theorem no_txt {s r : List UInt8} {p : List Val} (hp : ∀ v ∈ p, OkV v) (hs : s = encL p ++ r) (hr : r ≠ []) (h : ∀ v q, OkV v → fst r = some (v, q) → 16 ≤ p.length) : ∀ l, ¬ IsTxt s l := by
  intro l hl
  obtain ⟨h1, h2, h3⟩ := hl
  obtain ⟨l', rfl, hr'⟩ := enc_split p l r hp h1 (by rw [← h3, hs])
  cases l' with
  | nil => exact hr hr'
  | cons v l' =>
    have hv : OkV v := h1 v (by simp)
    rw [encL_cons] at hr'
    have := h v (encL l') hv (by rw [hr']; exact fst_enc hv _)
    simp at h2
    omega
set_option maxRecDepth 100000 in
set_option maxHeartbeats 2000000 in
theorem decode_ (s : ByteArray) (w : World) (hs2 : s.size ≤ 4294967000) (hm : ∃ m, w.cell? ⟨1, 0, none⟩ = some (.int .i64 m)) :
    Calls Tryd.prog 7 #[.string s] w (Decoded w s.data.toList) := by
  have HM : Hid (∀ W, Below w.heap.size w W → ∃ m, W.cell? ⟨1, 0, none⟩ = some (.int .i64 m)) := fun W hW => by
    obtain ⟨m, hm⟩ := hm
    exact ⟨m, (hW.cell (block_lt_of_cell hm)).trans hm⟩
  clear hm
  go_enter Tryd.func7, Tryd.ntmps7
  go_wp2_with fail
  go_loopw [0, 4] (fun sv lv wr => ∃ (r : ByteArray) (p : List Val), sv = .string r ∧ r.size ≤ s.size ∧ Hid (s.data.toList = encL p ++ r.data.toList) ∧ Hid (∀ v ∈ p, OkV v) ∧ p.length ≤ 16 ∧ Hid (OwnV wr w.heap.size lv p) ∧ Hid (Below w.heap.size w wr)) (fun sv _ _ => (strOf sv).size)
  case atStart => exact ⟨s, [], rfl, Nat.le_refl _, rfl, fun v hv => by simp at hv, by simp, ownV_nil _ _, Below.refl _ _⟩
  case round =>
    obtain ⟨r, p, rfl, hrl, HE, HP, hpl, HO, HBw⟩ := hrel
    obtain ⟨a, c, rfl, hin, _⟩ := HO.out.vals
    have HIN := Lib.hid hin
    obtain ⟨P, hPl⟩ : ∃ P, p.length = P := ⟨_, rfl⟩
    have HPl := Lib.hid hPl
    rw [hPl] at hpl HO
    rw [hPl]
    clear hin hPl
    by_cases hr0 : r.size = 0
    · obtain rfl := ba_empty hr0
      have HT : Hid (IsTxt s.data.toList p) := ⟨HP.out, by rw [HPl.out]; exact hpl, by
        have := HE.out
        simpa using this⟩
      clear HE HP HM hr0
      go_wp2_with fail
      refine bodyPost_ret (v := .tuple #[.slice a P c, .nilIface]) (by simp [results, Tryd.results7, go_sem]) rfl ⟨.inl ⟨p, a, c, HT.out, by rw [HPl.out], HIN.out⟩, HBw.out⟩
    · have hrp : 0 < r.size := by omega
      have hre : (r.toList == []) = false := txt_ne0 hrp
      have HNE : Hid (r.data.toList ≠ []) := fun e => by rw [size_list, e] at hrp; simp at hrp
      have HF := Lib.hid (first_ r wr hrp (by omega) (HM.out _ HBw.out))
      clear hr0
      go_wp2_with fail
      refine HF.out.mono ?_
      rintro e w1 ⟨k, n, t, b, q, ok, rfl, hfst, hb1⟩
      have HB1 := Lib.hid (below_step HBw.out hb1)
      have HO1 := Lib.hid (HO.out.on hb1)
      have HFS := Lib.hid hfst
      clear hfst hb1 HF HBw HO HIN
      cases ok with
      | false =>
        have HX : Hid (∀ l, ¬ IsTxt s.data.toList l) := no_txt HP.out HE.out HNE.out (fun v q _ hh => by rw [HFS.out] at hh; cases hh)
        clear HE HP HFS HM HO1
        go_wp2_with fail
        refine bodyPost_ret (v := .tuple #[.slice none 0 0, .iface 43 (.int .i64 3)]) (by simp [results, Tryd.results7, go_sem]) rfl ⟨.inr ⟨HX.out, rfl⟩, below_step HB1.out ((Below.refl _ _).alloc (Nat.le_refl _) _)⟩
      | true =>
        have HFS2 : Hid (fst r.data.toList = some (⟨k, n, t, b⟩, q.data.toList)) := HFS.out
        clear HFS
        have HV : Hid (∀ W, Calls Tryd.prog 14 #[.agg #[.int .i64 k, .int .i64 n, .string t, .bool b]] W fun e w' => e = .returned (errV 43 (validN ⟨k, n, t, b⟩)) ∧ Below W.heap.size W w') := fun W => valid_ k n t b W
        have HI4 : Hid (In4 (w1.alloc (.cells #[.int .i64 k, .int .i64 n, .string t, .bool b] 41)) w1.heap.size 0 k n t b) := in4_new w1 k n t b _
        have HOA := Lib.hid (HO1.out.on ((Below.refl _ _).alloc (Nat.le_refl _) (.cells #[.int .i64 k, .int .i64 n, .string t, .bool b] 41)))
        have HBA := Lib.hid (below_step HB1.out ((Below.refl _ _).alloc (Nat.le_refl _) (.cells #[.int .i64 k, .int .i64 n, .string t, .bool b] 41)))
        clear HB1 HO1
        by_cases h0 : validN ⟨k, n, t, b⟩ = 0
        · have h0' : errV 43 (validN ⟨k, n, t, b⟩) = .nilIface := by rw [errV, if_pos h0]
          rw [h0'] at HV
          by_cases h16 : P = 16
          · have h16' : ((P : Int) == 16) = true := by rw [h16]; rfl
            have HX : Hid (∀ l, ¬ IsTxt s.data.toList l) := no_txt HP.out HE.out HNE.out (fun _ _ _ _ => by rw [HPl.out, h16]; exact Nat.le_refl _)
            clear HE HP HFS2 HM HOA h0 h0' HNE
            go_wp2_with fail
            refine (HV.out _).mono ?_
            rintro e w2 ⟨rfl, hb2⟩
            have HB2 := Lib.hid (below_step HBA.out hb2)
            clear hb2 HBA HI4
            go_wp2_with fail
            refine bodyPost_ret (v := .tuple #[.slice none 0 0, .iface 43 (.int .i64 3)]) (by simp [results, Tryd.results7, go_sem]) rfl ⟨.inr ⟨HX.out, rfl⟩, HB2.out⟩
          · have h16' : ((P : Int) == 16) = false := by simp; omega
            obtain ⟨hs1, hs3, hs4⟩ := fst_sound HFS2.out
            have HE2 : Hid (s.data.toList = encL (p ++ [⟨k, n, t, b⟩]) ++ q.data.toList) := by
              show _ = _
              rw [HE.out, encL_snoc, List.append_assoc, ← hs1]
            have HP2 : Hid (∀ v ∈ p ++ [⟨k, n, t, b⟩], OkV v) := fun v hv => by
              rcases List.mem_append.1 hv with hv | hv
              · exact HP.out v hv
              · rw [List.mem_singleton.1 hv]; exact ⟨h0, hs3⟩
            have hql : q.size < r.size := by rw [size_list, size_list]; exact hs4
            have hpl2 : (p ++ [(⟨k, n, t, b⟩ : Val)]).length ≤ 16 := by rw [List.length_append, HPl.out]; simp; omega
            have hroom : (p.length + [(⟨k, n, t, b⟩ : Val)].length) * 40 ≤ 140737488355328 := by rw [HPl.out]; simp; omega
            clear HE HP HFS2 HM hs1 hs3 hs4 h0 h0' HNE
            go_wp2_with fail
            refine (HV.out _).mono ?_
            rintro e w2 ⟨rfl, hb2⟩
            have HB2 := Lib.hid (below_step HBA.out hb2)
            have HO2 := Lib.hid (HOA.out.on hb2)
            obtain ⟨p0, p1, p2, p3⟩ := HI4.out.on hb2
            clear hb2 HBA HI4 HOA HV
            go_wp2_with (first
              | (at_builtin; refine wpList_append_vals w.heap.size _ w rfl _ _ rfl _ p [⟨k, n, t, b⟩] rfl (HO2.out.on ((Below.refl _ _).alloc (Nat.le_refl _) _)) w2.heap.size 0 1 1 rfl rfl (one_inV (in4_new w2 k n t b 41)) hroom (Nat.le_refl _) (below_step HB2.out ((Below.refl _ _).alloc (Nat.le_refl _) _)) ?_
                 intro v' w3 hown hb3
                 have HO3 := Lib.hid hown
                 have HB3 := Lib.hid hb3
                 clear hown hb3 p0 p1 p2 p3 HO2 HB2)
              | fail)
            go_roundw
            case rel => exact ⟨q, p ++ [⟨k, n, t, b⟩], rfl, by omega, HE2, HP2, hpl2, HO3, HB3⟩
            case measure => simp [strOf]; omega
        · obtain ⟨E, hE⟩ : ∃ E, errV 43 (validN ⟨k, n, t, b⟩) = .iface 43 (.int .i64 E) := ⟨_, by rw [errV, if_neg h0]⟩
          rw [hE] at HV
          have HX : Hid (∀ l, ¬ IsTxt s.data.toList l) := no_txt HP.out HE.out HNE.out (fun v' q' hv' hh => by
            rw [HFS2.out] at hh
            simp only [Option.some.injEq, Prod.mk.injEq] at hh
            exact absurd (by rw [hh.1]; exact hv'.1) h0)
          clear HE HP HFS2 HM HOA h0 hE HNE
          go_wp2_with fail
          refine (HV.out _).mono ?_
          rintro e w2 ⟨rfl, hb2⟩
          have HB2 := Lib.hid (below_step HBA.out hb2)
          clear hb2 HBA HI4
          go_wp2_with fail
          refine bodyPost_ret (v := .tuple #[.slice none 0 0, .iface 43 (.int .i64 3)]) (by simp [results, Tryd.results7, go_sem]) rfl ⟨.inr ⟨HX.out, rfl⟩, HB2.out⟩
end Go.Proofs.YtonbecjankghaaaDoor
