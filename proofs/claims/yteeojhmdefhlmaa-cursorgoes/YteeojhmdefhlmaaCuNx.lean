/- The walk of order.Next. -/
import Derived.Test.YteeojhmdefhlmaaCuMem
import Derived.Test.YteeojhmdefhlmaaCuNext
import Derived.Lib.ConvBytes
namespace Go.Proofs.Yteeojhmdefhlmaa
open Go.RowKit Go.Sort

/-- What Next tells. -/
def nxtV (l : List UInt8) : Value := match nxt l with | none => .tuple #[.string ⟨#[]⟩, .bool false] | some t => .tuple #[.string ⟨t.toArray⟩, .bool true]
theorem ext_list (s : ByteArray) (n : Nat) : (s.extract 0 n).data.toList = s.data.toList.take n := by simp
theorem conv_new (w : World) (T : ByteArray) : ∃ (W : World) (G : Nat), (convert 9 56 (.string T)).run Try.prog w = .ok (.slice (some ⟨w.heap.size, 0, none⟩) T.size G) W ∧ BytesIn W (some ⟨w.heap.size, 0, none⟩) (ns T.data.toList) ∧ (∀ j, j < T.size → W.frozen? ⟨w.heap.size, j, none⟩ = false) ∧ Below w.heap.size w W := by
  refine ⟨_, _, Lib.run_convert_string_bytes (P := Try.prog) w 9 56 5 T Try.underlying9 Try.underlying56 Try.underlying5, ?_, ?_, ?_⟩
  · intro j hj
    simp only [ns, List.length_map] at hj
    have hj2 : j < T.size := by rw [size_list]; exact hj
    refine ⟨_, 0, rfl, ?_⟩
    rw [Nat.zero_add, Lib.bytesWorld_cell w _ T j hj2]
    simp only [ns, List.getD_eq_getElem?_getD, List.getElem?_map, List.getElem?_eq_getElem hj]
    rfl
  · intro j hj
    have hs : T.size ≤ (Lib.bytesCells w 5 T).size := by
      unfold Lib.bytesCells
      rw [Array.size_append, Array.size_map]
      exact Nat.le_add_right _ _
    simp only [World.frozen?, Lib.bytesWorld_at_new]
    simp
    omega
  · refine ⟨rfl, rfl, rfl, by rw [Lib.bytesWorld_size]; omega, fun j hj => Lib.bytesWorld_at_old w _ T j hj⟩
theorem nxt_full {l : List UInt8} (h : full l) : nxtV l = .tuple #[.string ⟨#[]⟩, .bool false] := by unfold nxtV; rw [(nxt_none l).2 h]
theorem nxt_here {l : List UInt8} {m : Nat} (hm : m < l.length) (hc : ¬ l[m].toNat = 255) (hf : full (l.drop (m + 1))) : nxtV l = .tuple #[.string ⟨(l.take m ++ [UInt8.ofNat (l[m].toNat + 1)]).toArray⟩, .bool true] := by
  have e : l = l.take m ++ l[m] :: l.drop (m + 1) := by rw [← List.drop_eq_getElem_cons hm, List.take_append_drop]
  have := nxt_at (l.take m) l[m] (l.drop (m + 1)) hc hf
  rw [← e] at this
  unfold nxtV
  rw [this]
theorem full_step {l : List UInt8} {m : Nat} (hm : m < l.length) (hc : l[m].toNat = 255) (hf : full (l.drop (m + 1))) : full (l.drop m) := by
  rw [List.drop_eq_getElem_cons hm]
  intro x hx
  rcases List.mem_cons.1 hx with rfl | hx
  · exact hc
  · exact hf x hx
/-- One byte more, at the end. -/
theorem bytes_last {W : World} {B m : Nat} {xs : List Nat} {c : Nat} (h : BytesIn W (some ⟨B, 0, none⟩) (xs ++ [c])) (hm : xs.length = m) (d : Nat) : BytesIn (W.setCell ⟨B, m, none⟩ (.int .u8 (d : Int))) (some ⟨B, 0, none⟩) (xs ++ [d]) := by
  subst hm
  intro i hi
  refine ⟨B, 0, rfl, ?_⟩
  rw [Nat.zero_add]
  have hlast : W.cell? ⟨B, xs.length, none⟩ = some (.int .u8 (c : Int)) := by
    obtain ⟨b, o, e, h1⟩ := h xs.length (by simp)
    cases e
    rw [Nat.zero_add] at h1
    rw [h1]
    simp
  by_cases he : i = xs.length
  · subst he
    rw [World.cell?_setCell_same _ _ _ hlast]
    simp
  · have hil : i < xs.length := by simp at hi; omega
    rw [World.cell?_setCell_other _ _ _ _ (by simp only [ne_eq, Addr.mk.injEq]; omega)]
    obtain ⟨b, o, e, h1⟩ := h i (by simp; omega)
    cases e
    rw [Nat.zero_add] at h1
    rw [h1]
    simp [List.getD_eq_getElem?_getD, List.getElem?_append_left hil]
set_option maxRecDepth 100000 in
set_option maxHeartbeats 1000000 in
theorem next_ (s : ByteArray) (w : World) (hs : s.size ≤ 140737488355328) :
    Calls Try.prog 32 #[.string s] w fun e w' => e = .returned (nxtV s.data.toList) ∧ Below w.heap.size w w' := by
  obtain ⟨R, hR⟩ : ∃ R, R = nxtV s.data.toList := ⟨_, rfl⟩
  have HR := Lib.hid hR
  rw [← hR]
  clear hR
  go_enter Try.func32, Try.ntmps32
  go_wp2_with fail
  go_loopw [4] (fun jv wr => ∃ j : Nat, j ≤ s.size ∧ jv = .int .i64 j ∧ Hid (full (s.data.toList.drop j)) ∧ wr = w) (fun jv _ => (intOf jv).toNat)
  case atStart => exact ⟨s.size, Nat.le_refl _, rfl, by intro x hx; rw [size_list, List.drop_length] at hx; simp at hx, rfl⟩
  case round =>
    obtain ⟨j, hj, rfl, HF, rfl⟩ := hrel
    cases j with
    | zero =>
      have HX : Hid (R = .tuple #[.string ⟨#[]⟩, .bool false]) := by
        show _ = _
        have h0 := HF.out
        rw [List.drop_zero] at h0
        rw [HR.out, nxt_full h0]
      clear HF HR
      go_wp2_with fail
      exact bodyPost_ret (v := .tuple #[.string ⟨#[]⟩, .bool false]) (by simp [results, Try.results32, go_sem]) rfl ⟨by rw [HX.out], Below.refl _ _⟩
    | succ m =>
      have hm : m < s.size := by omega
      have hml : m < s.data.toList.length := by rw [← size_list]; exact hm
      have hsm : s.data.toList[m] = s[m] := rfl
      by_cases hc : s[m].toNat = 255
      · have hq : (((s[m].toNat : Nat) : Int) == 255) = true := by rw [hc]; rfl
        have HF2 : Hid (full (s.data.toList.drop m)) := full_step hml (by rw [hsm]; exact hc) HF.out
        clear HF hsm HR
        go_wp2_with fail
        go_roundw
        case rel => exact ⟨m, by omega, by go_num, HF2, trivial⟩
        case measure => simp [intOf]
      · have hq : (((s[m].toNat : Nat) : Int) == 255) = false := by simp; omega
        have hlt := s[m].toNat_lt
        have HX : Hid (R = .tuple #[.string ⟨(s.data.toList.take m ++ [UInt8.ofNat (s[m].toNat + 1)]).toArray⟩, .bool true]) := by
          show _ = _
          rw [HR.out, nxt_here hml (by rw [hsm]; exact hc) HF.out, hsm]
        obtain ⟨W, G, kv, hin, hfz, hb⟩ := conv_new wr (s.extract 0 (m + 1))
        have hsz : (s.extract 0 (m + 1)).size = m + 1 := by rw [size_list, ext_list, List.length_take, ← size_list]; omega
        rw [hsz] at kv hfz
        have hins : ns (s.extract 0 (m + 1)).data.toList = ns (s.data.toList.take m) ++ [s[m].toNat] := by
          rw [ext_list, List.take_add_one, List.getElem?_eq_getElem hml, ← ns_append]; rfl
        rw [hins] at hin
        have hlen : (ns (s.data.toList.take m)).length = m := by simp [ns]; rw [← size_list] at hml; omega
        have hcell : W.cell? ⟨wr.heap.size, m, none⟩ = some (.int .u8 (s[m].toNat : Nat)) := by
          obtain ⟨b, o, e, h1⟩ := hin m (by rw [List.length_append, hlen]; simp)
          cases e
          rw [Nat.zero_add] at h1
          rw [h1]
          simp [List.getD_eq_getElem?_getD, hlen]
        have hfm := hfz m (by omega)
        have HIN := Lib.hid (bytes_last hin hlen (s[m].toNat + 1))
        have HB := Lib.hid (hb.setCell (p := ⟨wr.heap.size, m, none⟩) (Nat.le_refl _) (.int .u8 ((s[m].toNat + 1 : Nat) : Int)))
        have kv2 := conv_ _ _ (m + 1) G _ (by rw [List.length_append, hlen]; rfl) HIN.out
        have hbs : bs (ns (s.data.toList.take m) ++ [s[m].toNat + 1]) = ⟨(s.data.toList.take m ++ [UInt8.ofNat (s[m].toNat + 1)]).toArray⟩ := by
          have := bs_ns (s.data.toList.take m)
          unfold bs at this ⊢
          rw [List.map_append]
          simp only [ByteArray.mk.injEq] at this
          have e := congrArg Array.toList this
          simp only at e
          rw [e]; rfl
        rw [hbs] at kv2
        have ecast : (((s[m].toNat + 1 : Nat) : Int)) = (s[m].toNat : Int) + 1 := by omega
        rw [ecast] at kv2 HB
        generalize (⟨(s.data.toList.take m ++ [UInt8.ofNat (s[m].toNat + 1)]).toArray⟩ : ByteArray) = RR at *
        clear hin hfz hb hins HF HR hsm hbs HIN ecast hlen
        go_wp2_with fail
        exact bodyPost_ret (v := .tuple #[.string RR, .bool true]) (by simp [results, Try.results32, go_sem]) rfl ⟨by rw [HX.out], HB.out⟩
end Go.Proofs.Yteeojhmdefhlmaa
