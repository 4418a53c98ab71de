/- node.drop: a walk for each of its ways. -/
import Derived.Test.YtagamkahfiackaaGreatDoorVLst
namespace Go.Proofs.YtagamkahfiackaaGreatDoor
open Go.RowKit Go.Sort

set_option maxRecDepth 100000 in
set_option maxHeartbeats 1000000 in
theorem dr_leaf_yes {w : World} {R : Ending → World → Prop} {q i : Nat} {k k' : ByteArray} {u : Vl} 
    (HF : Calls Tryz.prog 40 #[.pointer (some ⟨q, 0, none⟩), .string k] w fun e w2 => e = .returned (.tuple #[.int .i64 i, .bool true]) ∧ Below w.heap.size w w2)
    (HC : ∀ V, Below w.heap.size w V → Calls Tryz.prog 41 #[.pointer (some ⟨q, 0, none⟩), .int .i64 i] V fun e V' => e = .returned (.pointer none) ∧ V' = V)
    (HT : ∀ V, Below w.heap.size w V → Calls Tryz.prog 65 #[.pointer (some ⟨q, 0, none⟩), .int .i64 i] V fun e V' => e = .returned (.agg #[.string k', .slice u.a u.n u.c]) ∧ R (.returned (.tuple #[.slice u.a u.n u.c, .bool true])) V') :
    Calls Tryz.prog 49 #[.pointer (some ⟨q, 0, none⟩), .string k] w R := by
  have GF := Lib.hid HF
  have GC := Lib.hid HC
  have GT := Lib.hid HT
  have hfld : ∀ W, (Instr.field 99 (.agg #[.string k', .slice u.a u.n u.c]) 1).run Tryz.prog W = .ok (.slice u.a u.n u.c) W := fun W => by kernel_rfl
  clear HF HC HT
  go_enter Tryz.func49, Tryz.ntmps49
  go_wp2_with (first
    | (go_at_call 40; refine GF.out.mono ?_; rintro e w2 ⟨rfl, hb⟩; have HB := Lib.hid hb; clear hb)
    | (go_at_call 41; refine (GC.out _ HB.out).mono ?_; rintro e w3 ⟨rfl, hw⟩; have hw := hw.symm; subst hw)
    | (go_at_call 65; refine (GT.out _ HB.out).mono ?_; rintro e w4 ⟨rfl, hz⟩; have HZ := Lib.hid hz; clear hz)
    | fail)
  exact HZ.out
set_option maxRecDepth 100000 in
set_option maxHeartbeats 1000000 in
theorem dr_leaf_not {w : World} {R : Ending → World → Prop} {q i : Nat} {k : ByteArray} 
    (HF : Calls Tryz.prog 40 #[.pointer (some ⟨q, 0, none⟩), .string k] w fun e w2 => e = .returned (.tuple #[.int .i64 i, .bool false]) ∧ Below w.heap.size w w2)
    (HC : ∀ V, Below w.heap.size w V → Calls Tryz.prog 41 #[.pointer (some ⟨q, 0, none⟩), .int .i64 i] V fun e V' => e = .returned (.pointer none) ∧ V' = V)
    (HR : ∀ V, Below w.heap.size w V → R (.returned (.tuple #[.slice none 0 0, .bool false])) V) :
    Calls Tryz.prog 49 #[.pointer (some ⟨q, 0, none⟩), .string k] w R := by
  have GF := Lib.hid HF
  have GC := Lib.hid HC
  have GR := Lib.hid HR
  clear HF HC HR
  go_enter Tryz.func49, Tryz.ntmps49
  go_wp2_with (first
    | (go_at_call 40; refine GF.out.mono ?_; rintro e w2 ⟨rfl, hb⟩; have HB := Lib.hid hb; clear hb)
    | (go_at_call 41; refine (GC.out _ HB.out).mono ?_; rintro e w3 ⟨rfl, hw⟩; have hw := hw.symm; subst hw)
    | fail)
  exact GR.out _ HB.out
set_option maxRecDepth 100000 in
set_option maxHeartbeats 1000000 in
theorem dr_inner_not {w : World} {R : Ending → World → Prop} {q p i : Nat} {k : ByteArray} {hv : Vl} {hb : Bool}
    (HF : Calls Tryz.prog 40 #[.pointer (some ⟨q, 0, none⟩), .string k] w fun e w2 => e = .returned (.tuple #[.int .i64 i, .bool false]) ∧ Below w.heap.size w w2)
    (HC : ∀ V, Below w.heap.size w V → Calls Tryz.prog 41 #[.pointer (some ⟨q, 0, none⟩), .int .i64 i] V fun e V' => e = .returned (.pointer (some ⟨p, 0, none⟩)) ∧ V' = V)
    (HD : ∀ V, Below w.heap.size w V → Calls Tryz.prog 49 #[.pointer (some ⟨p, 0, none⟩), .string k] V fun e V' => e = .returned (.tuple #[.slice hv.a hv.n hv.c, .bool hb]) ∧ Calls Tryz.prog 64 #[.pointer (some ⟨q, 0, none⟩), .int .i64 i] V' fun e V2 => e = .returned (.tuple #[]) ∧ R (.returned (.tuple #[.slice hv.a hv.n hv.c, .bool hb])) V2) :
    Calls Tryz.prog 49 #[.pointer (some ⟨q, 0, none⟩), .string k] w R := by
  have GF := Lib.hid HF
  have GC := Lib.hid HC
  have GD := Lib.hid HD
  clear HF HC HD
  go_enter Tryz.func49, Tryz.ntmps49
  go_wp2_with (first
    | (go_at_call 40; refine GF.out.mono ?_; rintro e w2 ⟨rfl, hb⟩; have HB := Lib.hid hb; clear hb)
    | (go_at_call 41; refine (GC.out _ HB.out).mono ?_; rintro e w3 ⟨rfl, hw⟩; have hw := hw.symm; subst hw)
    | (go_at_call 49; refine (GD.out _ HB.out).mono ?_; rintro e w4 ⟨rfl, hf⟩; have HX := Lib.hid hf; clear hf)
    | (go_at_call 64; refine HX.out.mono ?_; rintro e w5 ⟨rfl, hz⟩; have HZ := Lib.hid hz; clear hz)
    | fail)
  exact HZ.out
set_option maxRecDepth 100000 in
set_option maxHeartbeats 1000000 in
theorem dr_inner_yes {w : World} {R : Ending → World → Prop} {q p g i i3 c : Nat} {k : ByteArray} {u : Vl} (y : It)
    (HF : Calls Tryz.prog 40 #[.pointer (some ⟨q, 0, none⟩), .string k] w fun e w2 => e = .returned (.tuple #[.int .i64 i, .bool true]) ∧ Below w.heap.size w w2)
    (HC : ∀ V, Below w.heap.size w V → Calls Tryz.prog 41 #[.pointer (some ⟨q, 0, none⟩), .int .i64 i] V fun e V' => e = .returned (.pointer (some ⟨p, 0, none⟩)) ∧ V' = V)
    (HI : ∀ V, Below w.heap.size w V → V.cell? ⟨q, 0, none⟩ = some (.slice (some ⟨g, 0, none⟩) (i + i3 + 1) c) ∧ V.cell? ⟨g, i * 2 + 1, none⟩ = some (.slice u.a u.n u.c))
    (HT : ∀ V, Below w.heap.size w V → Calls Tryz.prog 63 #[.pointer (some ⟨p, 0, none⟩)] V fun e V' => e = .returned (.agg #[.string y.1, .slice y.2.a y.2.n y.2.c]) ∧ V'.cell? ⟨q, 0, none⟩ = some (.slice (some ⟨g, 0, none⟩) (i + i3 + 1) c) ∧ ∃ V4, (Instr.storeAt 99 (.pointer (some ⟨g, i * 2, none⟩)) (.agg #[.string y.1, .slice y.2.a y.2.n y.2.c])).run Tryz.prog V' = .ok () V4 ∧ Calls Tryz.prog 64 #[.pointer (some ⟨q, 0, none⟩), .int .i64 i] V4 fun e V5 => e = .returned (.tuple #[]) ∧ R (.returned (.tuple #[.slice u.a u.n u.c, .bool true])) V5) :
    Calls Tryz.prog 49 #[.pointer (some ⟨q, 0, none⟩), .string k] w R := by
  have GF : Hid (Calls Tryz.prog 40 #[.pointer (some ⟨q, 0, none⟩), .string k] w fun e w2 => e = .returned (.tuple #[.int .i64 i, .bool true]) ∧ w2.cell? ⟨q, 0, none⟩ = some (.slice (some ⟨g, 0, none⟩) (i + i3 + 1) c) ∧ w2.cell? ⟨g, i * 2 + 1, none⟩ = some (.slice u.a u.n u.c) ∧ Hid (Below w.heap.size w w2)) := HF.mono fun e w2 ⟨h1, h2⟩ => ⟨h1, (HI w2 h2).1, (HI w2 h2).2, h2⟩
  have GC := Lib.hid HC
  have GT := Lib.hid HT
  have GI := Lib.hid HI
  have hlt : (i : Int) < (i : Int) + (i3 : Int) + 1 := by omega
  clear HF HC HT HI
  go_enter Tryz.func49, Tryz.ntmps49
  go_wp2_with (first
    | (go_at_call 40; refine GF.out.mono ?_; rintro e w2 ⟨rfl, d1, d2, HB⟩)
    | (go_at_call 41; refine (GC.out _ HB.out).mono ?_; rintro e w3 ⟨rfl, hw⟩; have hw := hw.symm; subst hw)
    | fail)
  rename World => w2
  have HT2 : Hid (Calls Tryz.prog 63 #[.pointer (some ⟨p, 0, none⟩)] w2.drew fun e V' => e = .returned (.agg #[.string y.1, .slice y.2.a y.2.n y.2.c]) ∧ V'.cell? ⟨q, 0, none⟩ = some (.slice (some ⟨g, 0, none⟩) (i + i3 + 1) c) ∧ ∃ V4, (Instr.storeAt 99 (.pointer (some ⟨g, i * 2, none⟩)) (.agg #[.string y.1, .slice y.2.a y.2.n y.2.c])).run Tryz.prog V' = .ok () V4 ∧ Hid (Calls Tryz.prog 64 #[.pointer (some ⟨q, 0, none⟩), .int .i64 i] V4 fun e V5 => e = .returned (.tuple #[]) ∧ R (.returned (.tuple #[.slice u.a u.n u.c, .bool true])) V5)) := GT.out _ (below_step HB.out (below_drew w2))
  have HC0 : Hid (w2.drew.cell? ⟨q, 0, none⟩ = some (.slice (some ⟨g, 0, none⟩) (i + i3 + 1) c)) := d1
  clear GF GC GT GI d1 d2 HB
  refine wp_region_noPanic ?_
  refine region_ph (A := fun _ => True) (e1 := 6) (B := (fun _ => True)) (e2 := 8) (C := (fun V => V.cell? ⟨q, 0, none⟩ = some (.slice (some ⟨g, 0, none⟩) (i + i3 + 1) c))) (by kernel_rfl) (⟨trivial, fun _ => trivial, fun _ => HC0.out⟩) (fun hSt => ?_)
  refine take_ph 0 (.pointer (some ⟨q, 0, none⟩)) [] rfl (by kernel_rfl) (fun _ _ _ h => h) (Or.inl ⟨by rfl, ?_⟩) hSt (fun hSn => ?_)
  · intro V _; go_simp
  clear hSt; rename Ph _ _ _ _ _ _ _ => hSt
  simp only [Act.put, List.setIfInBounds_toArray, List.set_cons_zero, List.set_cons_succ]
  refine take_ph 1 (.pointer (some ⟨q, 0, none⟩)) [] rfl (by kernel_rfl) (fun _ _ _ h => h) (Or.inl ⟨by rfl, ?_⟩) hSt (fun hSn => ?_)
  · intro V _; go_simp
  clear hSt; rename Ph _ _ _ _ _ _ _ => hSt
  simp only [Act.put, List.setIfInBounds_toArray, List.set_cons_zero, List.set_cons_succ]
  refine take_ph 2 (.pointer (some ⟨q, 0, none⟩)) [] rfl (by kernel_rfl) (fun _ _ _ h => h) (Or.inl ⟨by rfl, ?_⟩) hSt (fun hSn => ?_)
  · intro V _; go_simp
  clear hSt; rename Ph _ _ _ _ _ _ _ => hSt
  simp only [Act.put, List.setIfInBounds_toArray, List.set_cons_zero, List.set_cons_succ]
  refine take_ph 3 (.slice (some ⟨g, 0, none⟩) (i + i3 + 1) c) [7, 8] rfl (by kernel_rfl) (fun _ _ _ h => h) (Or.inl ⟨by rfl, ?_⟩) hSt (fun hSn => ?_)
  · rintro V ⟨_, hB, hC⟩; have hh := hC (by decide); have e0 := hh; clear hB hC; go_simp
  clear hSt; rename Ph _ _ _ _ _ _ _ => hSt
  simp only [Act.put, List.setIfInBounds_toArray, List.set_cons_zero, List.set_cons_succ]
  refine take_ph 4 (.int .i64 i) [] rfl (by kernel_rfl) (fun _ _ _ h => h) (Or.inl ⟨by rfl, ?_⟩) hSt (fun hSn => ?_)
  · intro V _; go_simp
  clear hSt; rename Ph _ _ _ _ _ _ _ => hSt
  simp only [Act.put, List.setIfInBounds_toArray, List.set_cons_zero, List.set_cons_succ]
  refine take_ph 5 (.pointer (some ⟨p, 0, none⟩)) [] rfl (by kernel_rfl) (fun _ _ _ h => h) (Or.inl ⟨by rfl, ?_⟩) hSt (fun hSn => ?_)
  · intro V _; go_simp
  clear hSt; rename Ph _ _ _ _ _ _ _ => hSt
  simp only [Act.put, List.setIfInBounds_toArray, List.set_cons_zero, List.set_cons_succ]
  refine ready_call_ph 6 rfl (by kernel_rfl) (fun KK hK => ?_)
  go_simp
  go_wp2_with (first | (go_at_call 63; refine HT2.out.mono ?_; rintro e V3 ⟨rfl, hc3, V4, hst4, HS4⟩))
  refine hK.out _ _ ?_ (fun hSn => ?_)
  · exact ⟨trivial, fun h => absurd (show true = false from h) (by decide), fun _ => hc3⟩
  clear hK KK hSt; rename Ph _ _ _ _ _ _ _ => hSt
  refine take_ph 7 (.pointer (some ⟨g, i * 2, none⟩)) [] rfl (by kernel_rfl) (fun _ _ _ h => h) (Or.inl ⟨by rfl, ?_⟩) hSt (fun hSn => ?_)
  · intro V _; go_simp
  clear hSt; rename Ph _ _ _ _ _ _ _ => hSt
  simp only [Act.put, List.setIfInBounds_toArray, List.set_cons_zero, List.set_cons_succ]
  refine ready_store_ph 8 rfl (by kernel_rfl) rfl 99 _ _ rfl _ _ rfl rfl (hst4) (⟨trivial, fun h => absurd (show true = false from h) (by decide), fun h => absurd (show true = false from h) (by decide)⟩) (fun hSn => ?_)
  clear hSt; rename Ph _ _ _ _ _ _ _ => hSt
  simp only [Act.put]
  refine done_ph (by kernel_rfl) ?_ _
  clear hSt
  refine NoPanic.normal ?_
  clear HC0 HT2 hst4 hc3
  go_wp2_with (first
    | (go_at_call 64; refine HS4.out.mono ?_; rintro e w5 ⟨rfl, hz⟩; have HZ := Lib.hid hz; clear hz)
    | fail)
  exact HZ.out
end Go.Proofs.YtagamkahfiackaaGreatDoor
