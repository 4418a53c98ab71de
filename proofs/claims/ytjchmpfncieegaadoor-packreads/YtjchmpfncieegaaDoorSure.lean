/- The walk of the law's sure. -/
import Derived.Test.YtjchmpfncieegaaDoorAppU
import Derived.Test.YtjchmpfncieegaaDoorRead
namespace Go.Proofs.YtjchmpfncieegaaDoor
open Go.RowKit Go.Sort

theorem rd300 : rdU [172, 2, 9] = (300, 2, 0) := rfl
theorem enc1 : ([] : List Nat) ++ enc (zz (-1)) = [1] := by
  rw [show zz (-1) = 1 from rfl, enc_lt (by decide)]
  rfl
theorem three (w : World) : BytesIn (w.alloc (.cells #[.int .u8 172, .int .u8 2, .int .u8 9] 5)) (some ⟨w.heap.size, 0, none⟩) [172, 2, 9] := by
  intro i hi
  refine ⟨_, _, rfl, ?_⟩
  match i, hi with
  | 0, _ => simp [go_sem]
  | 1, _ => simp [go_sem]
  | 2, _ => simp [go_sem]
set_option maxRecDepth 100000 in
set_option maxHeartbeats 1000000 in
theorem sure_ (w : World) : Calls Tryd.prog 12 #[] w fun e w' => e = .returned (.bool true) ∧ Below w.heap.size w w' := by
  obtain ⟨W1, hW1⟩ : ∃ W1, W1 = w.alloc (.cells #[.int .u8 172, .int .u8 2, .int .u8 9] 5) := ⟨_, rfl⟩
  have HU : Hid (Calls Tryd.prog 4 #[.slice (some ⟨w.heap.size, 0, none⟩) 3 3] W1 fun e w' => e = .returned (.tuple #[.int .u64 300, .int .i64 2, .nilIface]) ∧ w' = W1) := by
    have := uint_ (some ⟨w.heap.size, 0, none⟩) [172, 2, 9] 3 W1 (hW1 ▸ three w) (by decide) (by decide)
    rw [rd300] at this
    exact this
  have HI : Hid (Calls Tryd.prog 15 #[.slice none 0 0, .int .i64 (-1)] W1 (Laid W1 [1])) := by
    have := appI_ none [] 0 0 (-1) W1 rfl (bytesIn_nil _ _) (fun _ => rfl) (by decide) (by decide) (by decide)
    rw [enc1] at this
    exact this
  have hb1 : Below w.heap.size w W1 := by rw [hW1]; exact (Below.refl _ _).alloc (Nat.le_refl _) _
  have Hb1 := Lib.hid hb1
  have hbs : bs [1] = ⟨#[1]⟩ := rfl
  go_enter Tryd.func12, Tryd.ntmps12
  go_wp2_with fail
  rw [← hW1]
  refine HU.out.mono ?_
  rintro e w1 ⟨rfl, rfl⟩
  clear hW1 HU hb1
  go_wp2_with fail
  refine HI.out.mono ?_
  rintro e w2 ⟨g, c, rfl, hO, hb2⟩
  have hcv := conv_ w2 _ 1 c [1] rfl hO.cells.2.1
  rw [hbs] at hcv
  have hb3 : Below w.heap.size w w2 := Hb1.out.trans (hb2.mono Hb1.out.size)
  have Hb3 := Lib.hid hb3
  clear hb3 hb2 hO HI Hb1 hbs
  go_wp2_with fail
  go_ret
  exact ⟨rfl, Hb3.out⟩
end Go.Proofs.YtjchmpfncieegaaDoor
