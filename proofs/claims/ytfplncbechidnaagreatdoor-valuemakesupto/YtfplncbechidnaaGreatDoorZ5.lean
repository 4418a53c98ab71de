/- The walk of the document's Parse. -/
import Derived.Test.YtfplncbechidnaaGreatDoorZ4
import Derived.Test.YtfplncbechidnaaGreatDoorR1
import Derived.Test.YtfplncbechidnaaGreatDoorFr0
namespace Go.Proofs.YtfplncbechidnaaGreatDoor
open Go.RowKit Go.Sort

theorem frz_set {V : World} {a c : Addr} {x : Value} (h : V.frozen? a = false) : (V.setCell c x).frozen? a = false := by
  simp [go_sem, h]
/-- Where the result and the variable lie. -/
def FrV (w V : World) (k n : Int) (t : ByteArray) (b : Bool) : Prop :=
  Fr0 w V ∧ In4 V (w.heap.size + 1) 0 k n t b ∧ (V.frozen? ⟨w.heap.size + 1, 0, none⟩ = false ∧ V.frozen? ⟨w.heap.size + 1, 1, none⟩ = false ∧ V.frozen? ⟨w.heap.size + 1, 2, none⟩ = false ∧ V.frozen? ⟨w.heap.size + 1, 3, none⟩ = false) ∧ w.heap.size + 2 ≤ V.heap.size
theorem FrV.on {w V V' : World} {k n : Int} {t : ByteArray} {b : Bool} (h : FrV w V k n t b) (hb : Below V.heap.size V V') : FrV w V' k n t b := by
  obtain ⟨h1, h3, ⟨f0, f1, f2, f3⟩, h6⟩ := h
  have hl : w.heap.size + 1 < V.heap.size := by omega
  exact ⟨h1.on hb, h3.on hb, ⟨Frz.on f0 hl hb, Frz.on f1 hl hb, Frz.on f2 hl hb, Frz.on f3 hl hb⟩, Nat.le_trans h6 hb.size⟩
theorem frv_start (w : World) (ty : TypeId) : FrV w ((w.alloc (.cells #[.int .i64 0, .int .i64 0, .string ⟨#[]⟩, .bool false] ty)).alloc (.cells #[.int .i64 0, .int .i64 0, .string ⟨#[]⟩, .bool false] ty)) 0 0 ⟨#[]⟩ false := by
  refine ⟨(fr0_start w ty).on ((Below.refl _ _).alloc (Nat.le_refl _) _), ?_, ⟨?_, ?_, ?_, ?_⟩, by simp⟩
  · have := in4_new (w.alloc (.cells #[.int .i64 0, .int .i64 0, .string ⟨#[]⟩, .bool false] ty)) 0 0 ⟨#[]⟩ false ty
    simpa using this
  all_goals simp [go_sem]
theorem FrV.set {w V : World} {k n : Int} {t : ByteArray} {b : Bool} (h : FrV w V k n t b) (k' n' : Int) (t' : ByteArray) (b' : Bool) :
    FrV w ((((V.setCell ⟨w.heap.size + 1, 0, none⟩ (.int .i64 k')).setCell ⟨w.heap.size + 1, 1, none⟩ (.int .i64 n')).setCell ⟨w.heap.size + 1, 2, none⟩ (.string t')).setCell ⟨w.heap.size + 1, 3, none⟩ (.bool b')) k' n' t' b' := by
  obtain ⟨⟨⟨r0, r1, r2, r3⟩, ⟨f0, f1, f2, f3⟩, hbw, hsz⟩, hp, ⟨g0, g1, g2, g3⟩, hs2⟩ := h
  have hsi := set_in4 hp (.int .i64 k') (.int .i64 n') (.string t') (.bool b')
  refine ⟨⟨⟨?_, ?_, ?_, ?_⟩, ⟨?_, ?_, ?_, ?_⟩, four_set hbw _ (by omega) _ _ _ _, ?_⟩, ⟨hsi.1, hsi.2.1, hsi.2.2.1, hsi.2.2.2⟩, ⟨?_, ?_, ?_, ?_⟩, ?_⟩
  · simp [go_sem, r0]
  · simp [go_sem, r1]
  · simp [go_sem, r2]
  · simp [go_sem, r3]
  · exact frz_set (frz_set (frz_set (frz_set f0)))
  · exact frz_set (frz_set (frz_set (frz_set f1)))
  · exact frz_set (frz_set (frz_set (frz_set f2)))
  · exact frz_set (frz_set (frz_set (frz_set f3)))
  · simpa [go_sem] using hsz
  · exact frz_set (frz_set (frz_set (frz_set g0)))
  · exact frz_set (frz_set (frz_set (frz_set g1)))
  · exact frz_set (frz_set (frz_set (frz_set g2)))
  · exact frz_set (frz_set (frz_set (frz_set g3)))
  · simpa [go_sem] using hs2
theorem mid_drop {l : List UInt8} {i : Nat} (h1 : 1 ≤ i) (h2 : i + 1 < l.length) : ((l.drop 1).dropLast).drop (i - 1) = l[i] :: ((l.drop 1).dropLast).drop i := by
  have hm : i - 1 < ((l.drop 1).dropLast).length := by simp; omega
  rw [List.drop_eq_getElem_cons hm]
  have e : i - 1 + 1 = i := by omega
  simp only [List.getElem_dropLast, List.getElem_drop, e]
  congr 2; omega
theorem mid_end {l : List UInt8} {i : Nat} (h2 : l.length ≤ i + 1) : ((l.drop 1).dropLast).drop (i - 1) = [] := by
  apply List.drop_eq_nil_of_le; simp; omega
theorem unp_quote (l : List UInt8) : unp (39 :: l) = 39 :: unp (l.drop 1) := by
  cases l with
  | nil => rfl
  | cons d l => rw [unp_cons_quote]; rfl

/-- What is made of a guess: the three ways. -/
def Made (s x : ByteArray) (E : Int) (G R : Value) (F : Int) : Prop :=
  (E = 0 ∧ x = s ∧ R = G ∧ F = 0) ∨ (E ≠ 0 ∧ R = .agg #[.int .i64 0, .int .i64 0, .string ⟨#[]⟩, .bool false] ∧ F = 3) ∨ (E = 0 ∧ (x.toList == s.toList) = false ∧ R = .agg #[.int .i64 0, .int .i64 0, .string ⟨#[]⟩, .bool false] ∧ F = 3)
set_option maxHeartbeats 1000000 in
theorem rg_text (s : ByteArray) (w : World) (h1 : (s.toList == [78, 85, 76, 76]) = false) (h2 : (s.toList == [84, 82, 85, 69]) = false) (h3 : (s.toList == [70, 65, 76, 83, 69]) = false) (hl : 1 < s.size) (h39 : s[0].toNat = 39) (hl2 : s.size ≤ 1048576) (T : List UInt8) (hT : unp ((s.data.toList.drop 1).dropLast) = T)
    (x : ByteArray) (E F : Int) (R : Value) (hp : ∀ W, Calls Tryz.prog 5 #[.agg #[.int .i64 2, .int .i64 0, .string ⟨T.toArray⟩, .bool false]] W fun e w' => e = .returned (.tuple #[.string x, .int .i64 E]) ∧ Below W.heap.size W w')
    (hm : Made s x E (.agg #[.int .i64 2, .int .i64 0, .string ⟨T.toArray⟩, .bool false]) R F) :
    Calls Tryz.prog 7 #[.string s] w fun e w' => e = .returned (.tuple #[R, .int .i64 F]) ∧ Below w.heap.size w w' := by
  have HP := Lib.hid hp
  have HM := Lib.hid hm
  have HT := Lib.hid hT
  have HTx : Hid (∀ W, Calls Tryz.prog 12 #[.string ⟨T.toArray⟩] W fun e w' => e = .returned (.agg #[.int .i64 2, .int .i64 0, .string ⟨T.toArray⟩, .bool false]) ∧ Below W.heap.size W w') := fun W => rtext_ _ W
  have F0 := Lib.hid (frv_start w 23)
  clear hp hm hT
  go_enter Tryz.func7, Tryz.ntmps7
  go_wp2_with fail
  generalize ((w.alloc (.cells #[.int .i64 0, .int .i64 0, .string ⟨#[]⟩, .bool false] 23)).alloc (.cells #[.int .i64 0, .int .i64 0, .string ⟨#[]⟩, .bool false] 23)) = w0 at *
  go_loopw [5, 6] (fun sv iv wr => ∃ (i : Nat) (xs : List UInt8), (1 ≤ i ∧ i ≤ s.size ∧ xs.length ≤ i) ∧ iv = .int .i64 i ∧ Hid (unp ((s.data.toList.drop 1).dropLast) = xs ++ unp (((s.data.toList.drop 1).dropLast).drop (i - 1))) ∧ Hid (Own wr w0.heap.size sv (ns xs)) ∧ Hid (Below w0.heap.size w0 wr)) (fun _ iv _ => s.size - (intOf iv).toNat)
  case atStart =>
    exact ⟨1, [], ⟨Nat.le_refl _, by omega, by simp⟩, rfl, rfl, own_nil _ _, Below.refl _ _⟩
  case round =>
    obtain ⟨i, xs, ⟨hi1, hi2, hxs⟩, rfl, HU, HO, HB⟩ := hrel
    by_cases hlt : i + 1 < s.size
    · have hlt2 : (i : Int) < (s.size : Int) - 1 := by omega
      have hlt3 : (i : Int) < (s.size : Int) := by omega
      have hlt4 : i < s.size := by omega
      have HD : Hid (((s.data.toList.drop 1).dropLast).drop (i - 1) = s[i] :: ((s.data.toList.drop 1).dropLast).drop i) := mid_drop hi1 (by rw [← size_list]; exact hlt)
      have hln : (ns xs).length ≤ i := by simpa [ns] using hxs
      generalize hXS : ns xs = XS at *
      by_cases hq : s[i] = 39
      · have hq2 : s[i].toNat = 39 := by rw [hq]; rfl
        have hq1 : (((s[i].toNat : Nat) : Int) == 39) = true := by rw [hq2]; rfl
        go_wp2_with (first
          | (at_builtin; refine wpList_append_one _ w0 rfl _ _ rfl _ XS rfl (.inl (HO.out.on ((Below.refl _ _).alloc (Nat.le_refl _) _))) wr.heap.size 39 rfl (by simp [go_sem]) (by omega) (below_step HB.out ((Below.refl _ _).alloc (Nat.le_refl _) _)) ?_
             intro v' w2 hown hb2
             have HO2 := Lib.hid hown
             have HB2 := Lib.hid hb2
             clear hown hb2 HO HB)
          | fail)
        refine ⟨⟨i + 2, xs ++ [s[i]], ⟨by omega, by omega, by simp; omega⟩, by go_num, ?_, ?_, HB2⟩, by simp [intOf]; omega⟩
        · show _ = _
          rw [HU.out, HD.out, hq, unp_quote, List.drop_drop]; simp
        · have e : ns (xs ++ [s[i]]) = XS ++ [39] := by rw [← hXS]; simp [ns, hq]
          show Own _ _ _ _
          rw [e]; exact HO2.out
      · have hq2 : ¬ s[i].toNat = 39 := fun e => hq (UInt8.toNat_inj.1 (by rw [e]; rfl))
        have hq1 : (((s[i].toNat : Nat) : Int) == 39) = false := by simp; omega
        go_wp2_with (first
          | (at_builtin; refine wpList_append_one _ w0 rfl _ _ rfl _ XS rfl (.inl (HO.out.on ((Below.refl _ _).alloc (Nat.le_refl _) _))) wr.heap.size s[i].toNat rfl (by simp [go_sem]) (by omega) (below_step HB.out ((Below.refl _ _).alloc (Nat.le_refl _) _)) ?_
             intro v' w2 hown hb2
             have HO2 := Lib.hid hown
             have HB2 := Lib.hid hb2
             clear hown hb2 HO HB)
          | fail)
        refine ⟨⟨i + 1, xs ++ [s[i]], ⟨by omega, by omega, by simp; omega⟩, by go_num, ?_, ?_, HB2⟩, by simp [intOf]; omega⟩
        · show _ = _
          rw [HU.out, HD.out, unp_cons_other hq]; simp
        · have e : ns (xs ++ [s[i]]) = XS ++ [s[i].toNat] := by rw [← hXS]; simp [ns]
          show Own _ _ _ _
          rw [e]; exact HO2.out
    · have hge : ¬ (i : Int) < (s.size : Int) - 1 := by omega
      have HE : Hid (T = xs) := by
        show _ = _
        rw [← HT.out, HU.out, mid_end (by rw [← size_list]; omega)]; simp [unp]
      obtain ⟨a, cc, rfl, hin, hnn⟩ := HO.out.bytes
      have kv := conv_ wr a _ cc _ rfl hin
      have hbs : bs (ns xs) = ⟨T.toArray⟩ := by rw [bs_ns, HE.out]
      rw [hbs] at kv
      clear hbs
      generalize (ns xs).length = LL at *
      generalize (⟨T.toArray⟩ : ByteArray) = TT at *
      have F1 := Lib.hid (F0.out.on HB.out)
      clear HO hin HB HE HU F0 hnn
      clear hi1 hi2 hxs hlt
      go_wp2_with fail
      refine (HTx.out _).mono ?_
      rintro e w3 ⟨rfl, hb3⟩
      obtain ⟨⟨⟨r0, r1, r2, r3⟩, ⟨f0, f1, f2, f3⟩, hbw, hsz⟩, ⟨p0, p1, p2, p3⟩, ⟨g0, g1, g2, g3⟩, hs2⟩ := F1.out.on hb3
      go_wp2_with fail
      refine (HP.out _).mono ?_
      rintro e w4 ⟨rfl, hb4⟩
      clear r0 r1 r2 r3 f0 f1 f2 f3 hbw hsz p0 p1 p2 p3 g0 g1 g2 g3 hs2
      obtain ⟨⟨⟨r0, r1, r2, r3⟩, ⟨f0, f1, f2, f3⟩, hbw, hsz⟩, ⟨p0, p1, p2, p3⟩, ⟨g0, g1, g2, g3⟩, hs2⟩ := ((F1.out.on hb3).set 2 0 TT false).on hb4
      rcases HM.out with ⟨rfl, rfl, rfl, rfl⟩ | ⟨hE, rfl, rfl⟩ | ⟨rfl, hE, rfl, rfl⟩
      · have hxx : (x.toList == x.toList) = true := by simp
        go_wp2_with fail
        refine bodyPost_ret (v := .tuple #[.agg #[.int .i64 2, .int .i64 0, .string TT, .bool false], .int .i64 0]) ?_ rfl ⟨rfl, four_set hbw (w.heap.size) (by omega) _ _ _ _⟩
        simp [results, Tryz.results7, go_sem, r0, r1, r2, r3]
      · have hE1 : (E == 0) = false := by simpa using hE
        go_wp2_with fail
        refine bodyPost_ret (v := .tuple #[.agg #[.int .i64 0, .int .i64 0, .string ⟨#[]⟩, .bool false], .int .i64 3]) ?_ rfl ⟨rfl, four_set hbw (w.heap.size) (by omega) _ _ _ _⟩
        simp [results, Tryz.results7, go_sem, r0, r1, r2, r3]
      · go_wp2_with fail
        refine bodyPost_ret (v := .tuple #[.agg #[.int .i64 0, .int .i64 0, .string ⟨#[]⟩, .bool false], .int .i64 3]) ?_ rfl ⟨rfl, four_set hbw (w.heap.size) (by omega) _ _ _ _⟩
        simp [results, Tryz.results7, go_sem, r0, r1, r2, r3]
end Go.Proofs.YtfplncbechidnaaGreatDoor
