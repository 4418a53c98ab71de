/- The walks of the document's Seal and Open. -/
import Derived.Test.YtjnhcanohefjiaaGreatDoorCOpen
import Derived.Test.YtjnhcanohefjiaaGreatDoorCRef
namespace Go.Proofs.YtjnhcanohefjiaaGreatDoor
open Go.RowKit Go.Sort

theorem four_in (w : World) (s : Nat) (h : s < 4294967296) : BytesIn (w.alloc (.cells #[.int .u8 ((s : Int) / 16777216), .int .u8 ((s : Int) / 65536 % 256), .int .u8 ((s : Int) / 256 % 256), .int .u8 ((s : Int) % 256)] 5)) (some ⟨w.heap.size, 0, none⟩) (four s) := by
  rw [quad_lit s h]
  intro i hi
  refine ⟨_, _, rfl, ?_⟩
  rw [Nat.zero_add, cell_of_row _ _ i _ 5 (0, 0) (heap_alloc_last w _)]
  have := vals_get (four s) i hi
  simpa [quad] using this
set_option maxRecDepth 100000 in
set_option maxHeartbeats 1000000 in
theorem rseal_ (a : Option Addr) (xs : List Nat) (c : Nat) (w : World) (h : BytesIn w a xs) (hx : ∀ x ∈ xs, x < 256) (hc : a = none → c = 0) (hlim : xs.length ≤ 140737488355320) :
    Calls Tryz.prog 80 #[.slice a xs.length c] w (Made w (xs ++ four (sm 0 xs))) := by
  have H := Lib.hid (rupd_ 0 a xs c w h hx (by decide) (by omega))
  have hs := sm_lt 0 xs
  have HB := Lib.hid h
  have HC := Lib.hid hc
  clear h hx hc
  generalize sm 0 xs = s at *
  obtain ⟨len, hlen⟩ : ∃ len, xs.length = len := ⟨_, rfl⟩
  have HL := Lib.hid hlen
  rw [hlen] at hlim H ⊢
  clear hlen
  go_enter Tryz.func80, Tryz.ntmps80
  go_wp2_with fail
  refine H.out.mono ?_
  rintro e w1 ⟨rfl, rfl⟩
  clear H
  go_wp2_with (first
    | (at_builtin; refine wpList_append_bytes _ rfl _ _ rfl w1.heap.size _ [] xs rfl (own_nil _ _) a len c rfl HL.out HC.out HB.out (by rw [HL.out]; simp; omega) (Nat.le_refl _) ?_
       intro v2 w2 hown hgrow
       have HO2 := Lib.hid hown
       have Hb2 := Lib.hid (below_grow (Below.refl _ _) (own_nil _ _) hgrow)
       have hs2 := Hb2.out.size
       clear hown hgrow)
    | (at_builtin; refine wpList_append_bytes _ rfl _ _ rfl w1.heap.size _ ([] ++ xs) (four s) rfl (World.ownsRow.alloc HO2.out _) _ 4 4 rfl rfl (fun hh => by cases hh) (four_in w2 s hs) (by rw [List.nil_append, HL.out, four_length]; omega) (by simp; omega) ?_
       intro v3 w3 hown hgrow
       have HO3 := Lib.hid hown
       have Hb3 := Lib.hid (below_grow (Hb2.out.alloc hs2 _) (World.ownsRow.alloc HO2.out _) hgrow)
       clear hown hgrow)
    | fail)
  go_ret
  exact made_of HO3.out Hb3.out
/-- What the document's Open hands back. -/
def ROpened (w : World) (ys : List Nat) (er : Nat) (e : Ending) (w' : World) : Prop :=
  ∃ a c, e = .returned (.tuple #[.slice a ys.length c, .int .i64 (er : Nat)]) ∧ BytesIn w' a ys ∧ Below w.heap.size w w'
end Go.Proofs.YtjnhcanohefjiaaGreatDoor
