/- The walks of crc.sealOf, Seal, Open. -/
import Derived.Test.YtjnhcanohefjiaaGreatDoorCUpd
import Derived.Deep.RegionHeldLaw
import Derived.Deep.RegionHeld3
namespace Go.Proofs.YtjnhcanohefjiaaGreatDoor
open Go.RowKit Go.Sort

theorem below_setRow {B : Nat} {a w : World} {g : Nat} {cs : Array Value} (h : Below B a w) (hg : B ≤ g) : Below B a (w.setRow g cs) := by
  refine ⟨h.os, h.tape, h.output, ?_, fun k hk => ?_⟩
  · show a.heap.size ≤ (w.heap.modify g _).size
    rw [Array.size_modify]
    exact h.size
  · show (w.heap.modify g _)[k]? = _
    rw [Array.getElem?_modify, if_neg (by omega)]
    exact h.block k hk
theorem infoF : (Tryz.prog.info? 172).map (fun i => (i.zero, i.size)) = some (some (.agg (Array.replicate 4 (.int .u8 0))), 4) := by kernel_rfl
/-- The four bytes as an array. -/
def quad (n : Nat) : Array Value := (vals (four n)).toArray
theorem quad_size (n : Nat) : (quad n).size = 4 := rfl
theorem quad_all (n : Nat) : (quad n).all (·.oneCell') = true := by
  rw [Array.all_eq_true_iff_forall_mem]
  intro v hv
  exact vals_one (four n) v (by simpa [quad] using hv)
theorem quad_lit (s : Nat) (h : s < 4294967296) : #[Value.int .u8 ((s : Int) / 16777216), .int .u8 ((s : Int) / 65536 % 256), .int .u8 ((s : Int) / 256 % 256), .int .u8 ((s : Int) % 256)] = quad s := by
  have e : (s : Int) / 16777216 = ((s / 16777216 % 256 : Nat) : Int) := by omega
  rw [e]
  rfl
theorem storeAt_row (w : World) (g : Nat) (t : TypeId) (c c' : Array Value) (hg : w.heap[g]? = some (.cells c t)) (hi : (Tryz.prog.info? t).map (·.size) = some c'.size) (ho : c.size = c'.size) (h1 : c'.all (·.oneCell') = true) :
    (Instr.storeAt t (.pointer (some ⟨g, 0, none⟩)) (.agg c')).run Tryz.prog w = .ok () (w.setRow g c') := by
  simp only [Instr.storeAt, Instr.sureAddr, Sem.run_bind, Sem.run_pure, Result.andThen]
  exact run_storeVar_row (P := Tryz.prog) w g t t c c' hg hi ho h1
set_option maxRecDepth 100000 in
set_option maxHeartbeats 1000000 in
theorem sealOf_ (a : Option Addr) (xs : List Nat) (c : Nat) (w : World) (h : BytesIn w a xs) (hx : ∀ x ∈ xs, x < 256) (hlim : xs.length ≤ 281474976710656) :
    Calls Tryz.prog 91 #[.slice a xs.length c] w fun e w' => e = .returned (.agg (quad (sm 0 xs))) ∧ Below w.heap.size w w' := by
  have hz := Lib.hid (zero_of_info infoF).1
  have hsz := Lib.hid (zero_of_info infoF).2
  obtain ⟨W, hW⟩ : ∃ W, W = w.alloc (.cells #[.int .u8 0, .int .u8 0, .int .u8 0, .int .u8 0] 172) := ⟨_, rfl⟩
  have HbW : Hid (Below w.heap.size w W) := Lib.hid (by rw [hW]; exact (Below.refl _ _).alloc (Nat.le_refl _) _)
  have HgW : Hid (W.heap[w.heap.size]? = some (.cells #[.int .u8 0, .int .u8 0, .int .u8 0, .int .u8 0] 172)) := Lib.hid (by rw [hW]; exact heap_alloc_last w _)
  have H := Lib.hid (sum_ a xs c W (h.on HbW.out) hx hlim)
  clear h hx
  have hs := sm_lt 0 xs
  generalize sm 0 xs = s at *
  go_enter Tryz.func91, Tryz.ntmps91
  go_wp2_with fail
  rw [← hW]
  refine H.out.mono ?_
  rintro e w1 ⟨rfl, hb⟩
  have Hb := Lib.hid (below_step HbW.out hb)
  have hg1 : w1.heap[w.heap.size]? = some (.cells #[.int .u8 0, .int .u8 0, .int .u8 0, .int .u8 0] 172) := (hb.block _ (by rw [hW]; simp)).trans HgW.out
  have hst := storeAt_row w1 w.heap.size 172 _ (quad s) hg1 (by rw [quad_size]; exact hsz.out) rfl (quad_all s)
  have HG := Lib.hid (setRow_heap w1 w.heap.size _ (quad s) 172 (0, 0) hg1)
  have HB2 := Lib.hid (below_setRow (g := w.heap.size) (cs := quad s) Hb.out (Nat.le_refl _))
  have hq := quad_lit s hs
  generalize hw2 : w1.setRow w.heap.size (quad s) = w2 at *
  rw [← hq] at hst
  have HS := Lib.hid hst
  clear hb H hW HbW HgW hg1 hz hw2 hst hq
  have HL := Lib.hid (run_loadVar_row (P := Tryz.prog) w2 w.heap.size 172 172 (quad s) (0, 0) _ HG.out Tryz.underlying172 rfl (by rw [quad_size]; exact hsz.out))
  go_wp2_with (first | (refine wpList_store_at rfl 172 _ _ rfl _ _ rfl rfl HS.out ?_) | fail)
  refine bodyPost_ret (v := .agg (quad s)) ?_ rfl ⟨rfl, HB2.out⟩
  rw [results_cell rfl]
  simp [asAddr, Result.andThen, Act.put, HL.out]
theorem BytesIn.far {w w' : World} {a : Option Addr} {xs : List Nat} {row : Option Nat} (h : BytesIn w a xs) (hg : w.grownBy w' row) (hne : ∀ b o, a = some ⟨b, o, none⟩ → some b ≠ row) : BytesIn w' a xs := by
  intro i hi
  obtain ⟨b, o, e, h1⟩ := h i hi
  exact ⟨b, o, e, (hg.cell_far ⟨b, o + i, none⟩ (block_lt_of_cell h1) (hne b o e)).trans h1⟩
theorem far_ne {g k n c : Nat} (h : g ≠ k) : ∀ b o, (some ⟨g, 0, none⟩ : Option Addr) = some ⟨b, o, none⟩ → some b ≠ (Value.slice (some ⟨k, 0, none⟩) n c).ownBlock := by
  intro b o e hh
  cases e
  exact h (Option.some.inj hh)
theorem four_length (n : Nat) : (four n).length = 4 := rfl
theorem quad_in (w : World) (s : Nat) : BytesIn (w.alloc (.cells (quad s) 172)) (some ⟨w.heap.size, 0, none⟩) (four s) := by
  intro i hi
  refine ⟨_, _, rfl, ?_⟩
  rw [Nat.zero_add, cell_of_row _ _ i _ 172 (0, 0) (heap_alloc_last w _)]
  have := vals_get (four s) i hi
  simpa [quad] using this
set_option maxRecDepth 100000 in
set_option maxHeartbeats 1000000 in
theorem seal_ (a : Option Addr) (xs : List Nat) (c : Nat) (w : World) (h : BytesIn w a xs) (hx : ∀ x ∈ xs, x < 256) (hc : a = none → c = 0) (hlim : xs.length ≤ 140737488355320) :
    Calls Tryz.prog 71 #[.slice a xs.length c] w (Made w (xs ++ four (sm 0 xs))) := by
  have hsz := Lib.hid (zero_of_info infoF).2
  have H := Lib.hid (fun W (hW : Below w.heap.size w W) => sealOf_ a xs c W (h.on hW) hx (by omega))
  have HB := Lib.hid h
  have HC := Lib.hid hc
  clear h hx hc
  generalize sm 0 xs = s at *
  obtain ⟨len, hlen⟩ : ∃ len, xs.length = len := ⟨_, rfl⟩
  have HL := Lib.hid hlen
  rw [hlen] at hlim H ⊢
  clear hlen
  obtain ⟨i0, hi, hz0, hz1, hz2⟩ := info_parts infoB
  have HI := Lib.hid hi
  have HZ0 := Lib.hid hz0
  have HZ1 := Lib.hid hz1
  have HZ2 := Lib.hid hz2
  clear hi hz0 hz1 hz2
  go_enter Tryz.func71, Tryz.ntmps71
  go_wp2_with fail
  refine (H.out w (Below.refl _ _)).mono ?_
  rintro e w1 ⟨rfl, hb⟩
  have HS := Lib.hid (run_storeAt_new (P := Tryz.prog) w1 172 #[.int .u8 0, .int .u8 0, .int .u8 0, .int .u8 0] (quad s) (by rw [quad_size]; exact hsz.out) rfl (quad_all s))
  obtain ⟨W2, hW2⟩ : ∃ W2, W2 = w1.alloc (.cells (quad s) 172) := ⟨_, rfl⟩
  have Hb2 : Hid (Below w.heap.size w W2) := Lib.hid (by rw [hW2]; exact hb.alloc hb.size _)
  have HQ : Hid (BytesIn W2 (some ⟨w1.heap.size, 0, none⟩) (four s)) := Lib.hid (by rw [hW2]; exact quad_in w1 s)
  have HW2 : Hid (W2.heap.size = w1.heap.size + 1) := Lib.hid (by rw [hW2]; simp)
  rw [← hW2] at HS
  clear hb H hW2
  have hsz2 := Hb2.out.size
  go_wp2_with (first
    | (refine wpList_store_at rfl 172 _ _ rfl _ _ rfl rfl HS.out ?_)
    | (at_make; refine wpList_make_own _ rfl _ _ _ rfl w.heap.size 5 i0 _ 1 Tryz.underlying53 HI.out HZ0.out HZ1.out .i64 .i64 (len + 4) (len + 4) rfl rfl (by simp) (by rw [HZ2.out]; omega) (by unfold maxLen; omega) hsz2 ?_
       intro w3 hown hgrow
       have HO3 : Hid (Own w3 w.heap.size _ []) := Lib.hid hown
       have Hb3 := Lib.hid (Hb2.out.grown hgrow hsz2 (fun k hk => by cases hk))
       have HQ3 := Lib.hid (HQ.out.on ((Below.refl _ _).grown hgrow (Nat.le_refl _) (fun k hk => by cases hk)))
       have hsz3 := Hb3.out.size
       clear hown hgrow)
    | (at_builtin; refine wpList_append_bytes _ rfl _ _ rfl w.heap.size _ [] xs rfl HO3.out a len c rfl HL.out HC.out (HB.out.on Hb3.out) (by rw [HL.out]; simp; omega) hsz3 ?_
       intro v4 w4 hown hgrow
       have HO4 := Lib.hid hown
       have Hb4 := Lib.hid (below_grow Hb3.out HO3.out hgrow)
       have HQ4 := Lib.hid (HQ3.out.far hgrow (far_ne (by rw [HW2.out]; omega)))
       have hsz4 := Hb4.out.size
       clear hown hgrow)
    | (at_builtin; refine wpList_append_bytes _ rfl _ _ rfl w.heap.size _ ([] ++ xs) (four s) rfl HO4.out _ 4 4 rfl rfl (fun hh => by cases hh) HQ4.out (by rw [List.nil_append, HL.out, four_length]; omega) hsz4 ?_
       intro v5 w5 hown hgrow
       have HO5 := Lib.hid hown
       have Hb5 := Lib.hid (below_grow Hb4.out HO4.out hgrow)
       clear hown hgrow)
    | fail)
  go_ret
  exact made_of HO5.out Hb5.out
end Go.Proofs.YtjnhcanohefjiaaGreatDoor
