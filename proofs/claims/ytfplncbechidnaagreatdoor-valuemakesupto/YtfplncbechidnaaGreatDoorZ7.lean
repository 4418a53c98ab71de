/- The document's Parse, all ways; the name of a kind. -/
import Derived.Test.YtfplncbechidnaaGreatDoorZ6
import Derived.Test.YtfplncbechidnaaGreatDoorW8
namespace Go.Proofs.YtfplncbechidnaaGreatDoor
open Go.RowKit Go.Sort

theorem rg_null (w : World) : Calls Tryz.prog 7 #[.string ⟨nullW.toArray⟩] w fun e w' => e = .returned (.tuple #[.agg #[.int .i64 0, .int .i64 0, .string ⟨#[]⟩, .bool false], .int .i64 0]) ∧ Below w.heap.size w w' := by
  simp only [nullW]
  have F0 := Lib.hid (frv_start w 23)
  obtain ⟨⟨⟨r0, r1, r2, r3⟩, ⟨f0, f1, f2, f3⟩, hbw, hsz⟩, ⟨p0, p1, p2, p3⟩, ⟨g0, g1, g2, g3⟩, hs2⟩ := F0.out
  go_enter Tryz.func7, Tryz.ntmps7
  go_wp2_with fail
  refine bodyPost_ret (v := .tuple #[.agg #[.int .i64 0, .int .i64 0, .string ⟨#[]⟩, .bool false], .int .i64 0]) ?_ rfl ⟨rfl, hbw⟩
  simp [results, Tryz.results7, go_sem]
theorem rg_true (w : World) : Calls Tryz.prog 7 #[.string ⟨trueW.toArray⟩] w fun e w' => e = .returned (.tuple #[.agg #[.int .i64 3, .int .i64 0, .string ⟨#[]⟩, .bool true], .int .i64 0]) ∧ Below w.heap.size w w' := by
  have HBo : Hid (∀ W, Calls Tryz.prog 14 #[.bool true] W fun e w' => e = .returned (.agg #[.int .i64 3, .int .i64 0, .string ⟨#[]⟩, .bool true]) ∧ Below W.heap.size W w') := fun W => rbool_ _ W
  simp only [trueW]
  have F0 := Lib.hid (frv_start w 23)
  go_enter Tryz.func7, Tryz.ntmps7
  go_wp2_with fail
  refine (HBo.out _).mono ?_
  rintro e w1 ⟨rfl, hb1⟩
  obtain ⟨⟨⟨r0, r1, r2, r3⟩, ⟨f0, f1, f2, f3⟩, hbw, hsz⟩, ⟨p0, p1, p2, p3⟩, ⟨g0, g1, g2, g3⟩, hs2⟩ := F0.out.on hb1
  go_wp2_with fail
  refine bodyPost_ret (v := .tuple #[.agg #[.int .i64 3, .int .i64 0, .string ⟨#[]⟩, .bool true], .int .i64 0]) ?_ rfl ⟨rfl, four_set hbw (w.heap.size) (by omega) _ _ _ _⟩
  simp [results, Tryz.results7, go_sem, r0, r1, r2, r3]
theorem rg_false (w : World) : Calls Tryz.prog 7 #[.string ⟨falseW.toArray⟩] w fun e w' => e = .returned (.tuple #[.agg #[.int .i64 3, .int .i64 0, .string ⟨#[]⟩, .bool false], .int .i64 0]) ∧ Below w.heap.size w w' := by
  have HBo : Hid (∀ W, Calls Tryz.prog 14 #[.bool false] W fun e w' => e = .returned (.agg #[.int .i64 3, .int .i64 0, .string ⟨#[]⟩, .bool false]) ∧ Below W.heap.size W w') := fun W => rbool_ _ W
  simp only [falseW]
  have F0 := Lib.hid (frv_start w 23)
  go_enter Tryz.func7, Tryz.ntmps7
  go_wp2_with fail
  refine (HBo.out _).mono ?_
  rintro e w1 ⟨rfl, hb1⟩
  obtain ⟨⟨⟨r0, r1, r2, r3⟩, ⟨f0, f1, f2, f3⟩, hbw, hsz⟩, ⟨p0, p1, p2, p3⟩, ⟨g0, g1, g2, g3⟩, hs2⟩ := F0.out.on hb1
  go_wp2_with fail
  refine bodyPost_ret (v := .tuple #[.agg #[.int .i64 3, .int .i64 0, .string ⟨#[]⟩, .bool false], .int .i64 0]) ?_ rfl ⟨rfl, four_set hbw (w.heap.size) (by omega) _ _ _ _⟩
  simp [results, Tryz.results7, go_sem, r0, r1, r2, r3]
/-- What is told of a guess. -/
theorem made_of (s : ByteArray) (g : Val) (hg : gr s.data.toList = g) : Made s ⟨(prS g).toArray⟩ (validN g) (agV g) (agV (paR s.data.toList)) (paE s.data.toList) := by
  obtain ⟨h1, h2⟩ := told_same s.data.toList
  unfold paR paE
  rw [h1, hg]
  rw [h1, hg] at h2
  cases ht : told g s.data.toList
  · right
    simp only [Bool.false_eq_true, if_false]
    by_cases hz : validN g = 0
    · right
      have hne : printL g ≠ s.data.toList := fun e => by simp [told, hz, e] at ht
      refine ⟨hz, ?_, rfl, trivial⟩
      rw [prS, if_pos hz, Lib.toList_data, Lib.toList_data]
      simpa using hne
    · left
      exact ⟨hz, rfl, trivial⟩
  · left
    rw [h2 ht]
    simp only [told, Bool.and_eq_true, decide_eq_true_eq] at ht
    refine ⟨ht.1, ?_, rfl, rfl⟩
    apply ba_ext
    rw [prS, if_pos ht.1, ht.2]
theorem head_of {s : ByteArray} (h : 0 < s.size) : s.data.toList.head? = some s[0] := by
  have : 0 < s.data.toList.length := by rw [← size_list]; exact h
  rw [List.head?_eq_getElem?, List.getElem?_eq_getElem this]
  rfl
/-- What the document's Parse answers. -/
theorem rparse_ (s : ByteArray) (w : World) (hs : s.size ≤ 1048576) :
    Calls Tryz.prog 7 #[.string s] w fun e w' => e = .returned (.tuple #[agV (paR s.data.toList), .int .i64 (paE s.data.toList)]) ∧ Below w.heap.size w w' := by
  by_cases h1 : s.data.toList = nullW
  · obtain rfl : s = ⟨nullW.toArray⟩ := ba_ext h1
    exact rg_null w
  by_cases h2 : s.data.toList = trueW
  · obtain rfl : s = ⟨trueW.toArray⟩ := ba_ext h2
    exact rg_true w
  by_cases h3 : s.data.toList = falseW
  · obtain rfl : s = ⟨falseW.toArray⟩ := ba_ext h3
    exact rg_false w
  by_cases h0 : s.size = 0
  · obtain rfl : s = ⟨#[]⟩ := ba_empty h0
    have e1 : validN ⟨1, 0, ⟨#[]⟩, false⟩ = 0 := by decide
    have e2 : prS ⟨1, 0, ⟨#[]⟩, false⟩ = [48] := by
      rw [prS, if_pos e1, printL, if_pos rfl]
      show Lib.itoa 0 = [48]
      unfold Lib.itoa
      rw [if_neg (by decide), dec_last (by decide)]
      rfl
    have e3 := fun W => rprint_ 1 0 ⟨#[]⟩ false W inI_zero
    rw [e1, e2] at e3
    have e4 : paR [] = vNull ∧ paE [] = 3 := by
      obtain ⟨t1, _⟩ := told_same []
      have e5 : gr [] = vInt 0 := by rfl
      have t2 : told (vInt 0) [] = false := by
        have : printL (vInt 0) ≠ [] := by
          intro e
          have := e2
          rw [prS, if_pos e1] at this
          rw [show printL ⟨1, 0, ⟨#[]⟩, false⟩ = [] from e] at this
          cases this
        simp [told, this]
      rw [e5, t2] at t1
      exact ⟨by rw [paR, t1]; rfl, by rw [paE, t1]; rfl⟩
    have := rg_none w e3
    show Calls Tryz.prog 7 #[.string ⟨#[]⟩] w fun e w' => e = .returned (.tuple #[agV (paR []), .int .i64 (paE [])]) ∧ Below w.heap.size w w'
    rw [e4.1, e4.2]
    exact this
  have hpos : 0 < s.size := by omega
  have hh := head_of hpos
  by_cases hq : 1 < s.size ∧ s[0].toNat = 39
  · have hc : 1 < s.data.toList.length ∧ s.data.toList.head? = some 39 := by
      refine ⟨by rw [← size_list]; exact hq.1, ?_⟩
      rw [hh, UInt8.toNat_inj.1 (hq.2.trans (by rfl : 39 = (39 : UInt8).toNat))]
    have hg : gr s.data.toList = vText (unp (s.data.toList.drop 1).dropLast) := by rw [gr, if_neg h1, if_neg h2, if_neg h3, if_pos hc]
    exact rg_text s w (word_ne h1) (word_ne h2) (word_ne h3) hq.1 hq.2 hs _ rfl _ _ _ _ (fun W => rprint_ 2 0 _ false W inI_zero) (made_of s _ hg)
  · have hc : ¬ (1 < s.data.toList.length ∧ s.data.toList.head? = some 39) := by
      rintro ⟨ha, hb⟩
      rw [hh] at hb
      rw [← size_list] at ha
      injection hb with hb
      exact hq ⟨ha, by rw [hb]; rfl⟩
    have hg : gr s.data.toList = vInt (i64of (gN s.data.toList)) := by rw [gr, if_neg h1, if_neg h2, if_neg h3, if_neg hc]
    have hin : inI (i64of (gN s.data.toList)) := i64of_in (gN_lt _ (rdN_lt _))
    by_cases hn : s[0].toNat = 45
    · have hN : isNeg s.data.toList = true := by rw [isNeg, hh, UInt8.toNat_inj.1 (hn.trans (by rfl : 45 = (45 : UInt8).toNat))]; rfl
      have hgn : gN s.data.toList = (18446744073709551616 - rdN s.data.toList) % 18446744073709551616 := by rw [gN, if_pos hN]
      by_cases hl : 1 < s.size
      · exact rg_neg s w (word_ne h1) (word_ne h2) (word_ne h3) hpos hl hn hs _ hgn _ _ _ _ (fun W => rprint_ 1 _ ⟨#[]⟩ false W hin) (made_of s _ hg)
      · exact rg_neg1 s w (word_ne h1) (word_ne h2) (word_ne h3) hpos hl hn hs _ hgn _ _ _ _ (fun W => rprint_ 1 _ ⟨#[]⟩ false W hin) (made_of s _ hg)
    · have hN : ¬ isNeg s.data.toList = true := by
        rw [isNeg, hh]
        intro e
        simp at e
        exact hn (by rw [e]; rfl)
      have hgn : gN s.data.toList = rdN s.data.toList := by rw [gN, if_neg hN]
      by_cases hl : 1 < s.size
      · exact rg_pos s w (word_ne h1) (word_ne h2) (word_ne h3) hpos (fun e => hq ⟨hl, e⟩) hl hn hs _ hgn _ _ _ _ (fun W => rprint_ 1 _ ⟨#[]⟩ false W hin) (made_of s _ hg)
      · exact rg_pos1 s w (word_ne h1) (word_ne h2) (word_ne h3) hpos hl hn hs _ hgn _ _ _ _ (fun W => rprint_ 1 _ ⟨#[]⟩ false W hin) (made_of s _ hg)
/-- A kind's name. -/
def kindS (k : Int) : ByteArray := if k = 0 then ⟨#[78, 85, 76, 76]⟩ else if k = 1 then ⟨#[73, 78, 84]⟩ else if k = 2 then ⟨#[84, 69, 88, 84]⟩ else if k = 3 then ⟨#[66, 79, 79, 76]⟩ else ⟨#[]⟩
theorem kind_ (k : Int) (w : World) : Calls Tryz.prog 18 #[.int .i64 k] w fun e w' => e = .returned (.string (kindS k)) ∧ Below w.heap.size w w' := by
  by_cases h0 : k = 0
  · subst h0
    go_enter Tryz.func18, Tryz.ntmps18
    go_wp2_with fail
    go_ret
    exact ⟨rfl, Below.refl _ _⟩
  by_cases h1 : k = 1
  · subst h1
    go_enter Tryz.func18, Tryz.ntmps18
    go_wp2_with fail
    go_ret
    exact ⟨rfl, Below.refl _ _⟩
  by_cases h2 : k = 2
  · subst h2
    go_enter Tryz.func18, Tryz.ntmps18
    go_wp2_with fail
    go_ret
    exact ⟨rfl, Below.refl _ _⟩
  by_cases h3 : k = 3
  · subst h3
    go_enter Tryz.func18, Tryz.ntmps18
    go_wp2_with fail
    go_ret
    exact ⟨rfl, Below.refl _ _⟩
  · have e : kindS k = ⟨#[]⟩ := by simp [kindS, h0, h1, h2, h3]
    rw [e]
    go_enter Tryz.func18, Tryz.ntmps18
    go_wp2_with fail
    go_ret
    exact ⟨rfl, Below.refl _ _⟩
end Go.Proofs.YtfplncbechidnaaGreatDoor
