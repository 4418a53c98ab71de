/- The walks of the document's Seal and Open. -/
import Derived.Test.YtjgkoamhmmofbaaDoorOpen
import Derived.Test.YtjgkoamhmmofbaaDoorRef
namespace Go.Proofs.YtjgkoamhmmofbaaDoor
open Go.RowKit Go.Sort

theorem four_in (w : World) (s : Nat) (h : s < 4294967296) : BytesIn (w.alloc (.cells #[.int .u8 ((s : Int) / 16777216), .int .u8 ((s : Int) / 65536 % 256), .int .u8 ((s : Int) / 256 % 256), .int .u8 ((s : Int) % 256)] 5)) (some ⟨w.heap.size, 0, none⟩) (four s) := by
  rw [quad_lit s h]
  intro i hi
  refine ⟨_, _, rfl, ?_⟩
  rw [Nat.zero_add, cell_of_row _ _ i _ 5 (0, 0) (heap_alloc_last w _)]
  have := vals_get (four s) i hi
  simpa [quad] using this
set_option maxRecDepth 100000 in
set_option maxHeartbeats 1000000 in
theorem rseal_ (a : Option Addr) (xs : List Nat) (c : Nat) (w : World) (h : BytesIn w a xs) (hx : ∀ x ∈ xs, x < 256) (hc : a = none → c = 0) (hlim : xs.length ≤ 140737488355320) :
    Calls Tryd.prog 9 #[.slice a xs.length c] w (Made w (xs ++ four (sm 0 xs))) := by
  have H := Lib.hid (rupd_ 0 a xs c w h hx (by decide) (by omega))
  have hs := sm_lt 0 xs
  have HB := Lib.hid h
  have HC := Lib.hid hc
  clear h hx hc
  generalize sm 0 xs = s at *
  obtain ⟨len, hlen⟩ : ∃ len, xs.length = len := ⟨_, rfl⟩
  have HL := Lib.hid hlen
  rw [hlen] at hlim H ⊢
  clear hlen
  go_enter Tryd.func9, Tryd.ntmps9
  go_wp2_with fail
  refine H.out.mono ?_
  rintro e w1 ⟨rfl, rfl⟩
  clear H
  go_wp2_with (first
    | (at_builtin; refine wpList_append_bytes _ rfl _ _ rfl w1.heap.size _ [] xs rfl (own_nil _ _) a len c rfl HL.out HC.out HB.out (by rw [HL.out]; simp; omega) (Nat.le_refl _) ?_
       intro v2 w2 hown hgrow
       have HO2 := Lib.hid hown
       have Hb2 := Lib.hid (below_grow (Below.refl _ _) (own_nil _ _) hgrow)
       have hs2 := Hb2.out.size
       clear hown hgrow)
    | (at_builtin; refine wpList_append_bytes _ rfl _ _ rfl w1.heap.size _ ([] ++ xs) (four s) rfl (World.ownsRow.alloc HO2.out _) _ 4 4 rfl rfl (fun hh => by cases hh) (four_in w2 s hs) (by rw [List.nil_append, HL.out, four_length]; omega) (by simp; omega) ?_
       intro v3 w3 hown hgrow
       have HO3 := Lib.hid hown
       have Hb3 := Lib.hid (below_grow (Hb2.out.alloc hs2 _) (World.ownsRow.alloc HO2.out _) hgrow)
       clear hown hgrow)
    | fail)
  go_ret
  exact made_of HO3.out Hb3.out
/-- What the document's Open hands back. -/
def ROpened (w : World) (ys : List Nat) (er : Nat) (e : Ending) (w' : World) : Prop :=
  ∃ a c, e = .returned (.tuple #[.slice a ys.length c, .int .i64 (er : Nat)]) ∧ BytesIn w' a ys ∧ Below w.heap.size w w'
set_option maxRecDepth 100000 in
set_option maxHeartbeats 2000000 in
theorem ropen_ (a : Option Addr) (xs : List Nat) (c : Nat) (w : World) (h : BytesIn w a xs) (hx : ∀ x ∈ xs, x < 256) (hc : a = none → c = 0) (hcap : xs.length ≤ c) (hlim : xs.length ≤ 140737488355320) :
    Calls Tryd.prog 8 #[.slice a xs.length c] w (ROpened w (opn xs).1 (opn xs).2) := by
  by_cases h4 : xs.length < 4
  · have e : opn xs = ([], 12) := if_pos h4
    rw [e]
    have hlt : decide ((xs.length : Int) < 4) = true := decide_eq_true (by omega)
    generalize xs.length = len at *
    clear h hx e
    go_enter Tryd.func8, Tryd.ntmps8
    go_wp2_with fail
    go_ret2
    exact ⟨none, 0, rfl, bytesIn_nil _ _, Below.refl _ _⟩
  · obtain ⟨b0, o0, rfl, _⟩ := h 0 (by omega)
    obtain ⟨cut, hcut⟩ : ∃ cut, xs.length = cut + 4 := ⟨xs.length - 4, by omega⟩
    have hlt : (xs.take cut).length = cut := by rw [List.length_take]; omega
    have hbt : ∀ x ∈ xs.take cut, x < 256 := fun x hm => hx x (List.mem_of_mem_take hm)
    have HS : Hid (∀ W', Below w.heap.size w W' → Calls Tryd.prog 9 #[.slice (some ⟨b0, o0, none⟩) cut c] W' fun e w' => ∃ a' c', e = .returned (.slice a' (cut + 4) c') ∧ (convert 22 9 (.slice a' (cut + 4) c')).run Tryd.prog w' = .ok (.string (bs (xs.take cut ++ four (sm 0 (xs.take cut))))) w' ∧ Below W'.heap.size W' w') := Lib.hid fun W' hW => by
      have := rseal_ (some ⟨b0, o0, none⟩) (xs.take cut) c W' (take_in (h.on hW) cut) hbt (fun hh => by cases hh) (by omega)
      rw [hlt] at this
      refine this.mono fun e w' hh => ?_
      obtain ⟨a', c', h1, _, h3, _, h5⟩ := hh
      have hl : (xs.take cut ++ four (sm 0 (xs.take cut))).length = cut + 4 := by rw [List.length_append, hlt, four_length]
      rw [hl] at h1
      exact ⟨a', c', h1, conv_ w' a' (cut + 4) c' _ hl.symm h3, h5⟩
    have CB : ∀ W', Below w.heap.size w W' → (convert 22 9 (.slice (some ⟨b0, o0, none⟩) (cut + 4) c)).run Tryd.prog W' = .ok (.string (bs xs)) W' := fun W' hW => conv_ W' _ (cut + 4) c xs hcut.symm (h.on hW)
    have HBT : Hid (∀ W', Below w.heap.size w W' → BytesIn W' (some ⟨b0, o0, none⟩) (xs.take cut)) := Lib.hid fun W' hW => take_in (h.on hW) cut
    have e : opn xs = if xs.drop cut = four (sm 0 (xs.take cut)) then (xs.take cut, 0) else ([], 11) := by
      unfold opn
      rw [if_neg h4, show xs.length - 4 = cut by omega]
    have hbs : (bs (xs.take cut ++ four (sm 0 (xs.take cut))) = bs xs) ↔ xs.drop cut = four (sm 0 (xs.take cut)) := by
      constructor
      · intro e
        have e2 := bs_inj _ _ (fun x hm => by
          rcases List.mem_append.1 hm with h | h
          · exact hbt x h
          · exact four_byte _ x h) hx e
        have e3 := congrArg (List.drop cut) e2
        rw [List.drop_left' hlt] at e3
        exact e3.symm
      · intro e
        rw [← e, List.take_append_drop]
    have hbe : ((bs (xs.take cut ++ four (sm 0 (xs.take cut)))).toList == (bs xs).toList) = decide (xs.drop cut = four (sm 0 (xs.take cut))) := by
      rw [Bool.eq_iff_iff, beq_iff_eq, decide_eq_true_eq, ← hbs]
      constructor
      · intro e
        rw [ByteArray.toList_eq, ByteArray.toList_eq] at e
        exact ByteArray.ext (Array.toList_inj.1 e)
      · intro e
        rw [e]
    have E1 : Hid (decide (xs.drop cut = four (sm 0 (xs.take cut))) = true → opn xs = (xs.take cut, 0)) := Lib.hid fun hh => by rw [e, if_pos (of_decide_eq_true hh)]
    have E0 : Hid (decide (xs.drop cut = four (sm 0 (xs.take cut))) = false → opn xs = ([], 11)) := Lib.hid fun hh => by rw [e, if_neg (of_decide_eq_false hh)]
    have HLT : Hid ((xs.take cut).length = cut) := Lib.hid hlt
    clear e hbs
    generalize decide (xs.drop cut = four (sm 0 (xs.take cut))) = be at *
    generalize bs (xs.take cut ++ four (sm 0 (xs.take cut))) = s1 at *
    generalize bs xs = s2 at *
    rw [hcut] at hcap hlim ⊢
    have hc1 : (cut : Int) ≤ (c : Int) := by omega
    have hc0 : (0 : Int) ≤ (cut : Int) := by omega
    have hsub : IntKind.i64.wrap (cut : Int) = (cut : Int) := by rw [IntKind.wrap_i64]; omega
    clear hlt hbt hcut h4 h hx
    go_enter Tryd.func8, Tryd.ntmps8
    go_wp2_with fail
    refine wp_region_noPanic ?_
    go_region_held (fun W' => Below w.heap.size w W') (first | assumption | exact Below.refl _ _ | exact below_drew _ | exact below_step (by assumption) (by assumption))
      (first | (go_at_call 9; refine (HS.out _ (by assumption)).mono ?_; rintro e w' ⟨a', c', rfl, hcv, hbb⟩) | fail)
    all_goals
      refine NoPanic.normal ?_
      have hbE : Below w.heap.size w w' := by assumption
      have HbE := Lib.hid hbE
      clear hbE CB hcv hbb hbe
      cases be with
      | true =>
        have E := E1.out rfl
        have HE := Lib.hid E
        clear E
        go_wp2_with fail
        go_ret2
        rw [HE.out]
        exact ⟨_, c, by rw [HLT.out]; rfl, HBT.out w' HbE.out, HbE.out⟩
      | false =>
        have E := E0.out rfl
        have HE := Lib.hid E
        clear E
        go_wp2_with fail
        go_ret2
        rw [HE.out]
        exact ⟨none, 0, rfl, bytesIn_nil _ _, HbE.out⟩
end Go.Proofs.YtjgkoamhmmofbaaDoor
