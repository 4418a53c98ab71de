/- The walks of the law's twin and sure. -/
import Derived.Test.YtbplklfkkmhijaaRcFrame
namespace Go.Proofs.Ytbplklfkkmhijaa
open Go.RowKit Go.Sort

set_option maxRecDepth 100000 in
set_option maxHeartbeats 1000000 in
theorem twin_ (a : Option Addr) (xs : List Nat) (c : Nat) (w : World) (h : BytesIn w a xs) (hc : a = none → c = 0) (hn : xs.length ≤ 140737488355328) :
    Calls Try.prog 5 #[.slice a xs.length c] w (Made w xs) := by
  have HB := Lib.hid h
  have HC := Lib.hid hc
  clear h hc
  obtain ⟨len, hlen⟩ : ∃ len, xs.length = len := ⟨_, rfl⟩
  have HL := Lib.hid hlen
  rw [hlen] at hn ⊢
  clear hlen
  go_enter Try.func5, Try.ntmps5
  go_wp2_with (first
    | (at_builtin; refine wpList_append_bytes _ rfl _ _ rfl w.heap.size _ [] xs rfl (own_nil _ _) a len c rfl HL.out HC.out HB.out (by rw [HL.out]; simpa using hn) (Nat.le_refl _) ?_
       intro v' w2 hown hgrow
       have HO := Lib.hid hown
       have Hb := Lib.hid (below_grow (Below.refl _ _) (own_nil w w.heap.size) hgrow)
       clear hown hgrow)
    | fail)
  go_ret
  exact made_of HO.out Hb.out
theorem own_cap {w : World} {base n c : Nat} {a : Option Addr} {xs : List Nat} (h : Own w base (.slice a n c) xs) : xs.length ≤ c := by
  rcases h.2 with ⟨h', e⟩ | ⟨g', cap', cur, h', _, _, hnc, _⟩
  · cases h'
    omega
  · cases h'
    exact hnc
/-- A row that is not empty lies somewhere. -/
theorem own_at {w : World} {base n c : Nat} {a : Option Addr} {xs : List Nat} (h : Own w base (.slice a n c) xs) (h0 : 0 < xs.length) : ∃ g, a = some ⟨g, 0, none⟩ := by
  rcases h.2 with ⟨_, e⟩ | ⟨g, _, _, e, _⟩
  · omega
  · simp only [Value.slice.injEq] at e
    exact ⟨g, e.1⟩
theorem sm_sure : four (sm 0 [1, 1, 97]) = [221, 45, 211, 170] := by decide +kernel
theorem sure_rec : frm 1 [97] = ([1, 1, 97, 221, 45, 211, 170], 0) := by
  have e : recH 1 [97] = [1, 1, 97] := by unfold recH; rw [enc_lt (by decide), enc_lt (by decide)]; rfl
  unfold frm
  rw [if_pos (by decide), recB, e, sm_sure]
  rfl
set_option maxRecDepth 100000 in
set_option maxHeartbeats 1000000 in
theorem sure_ (w : World) : Calls Try.prog 8 #[] w fun e w' => e = .returned (.bool true) ∧ Below w.heap.size w w' := by
  have kc := fun (w : World) (C : Array Value) (n c : Nat) => Lib.run_convert_bytes_const (P := Try.prog) w 24 5 C n c Try.underlying24 Try.underlying5
  obtain ⟨W1, hW1⟩ : ∃ W1, W1 = w.alloc (.cells #[.int .u8 97] 5 (1, 2)) := ⟨_, rfl⟩
  have HF : Hid (Calls Try.prog 4 #[.int .u64 1, .slice (some ⟨w.heap.size, 0, none⟩) 1 1] W1 (Opened W1 [1, 1, 97, 221, 45, 211, 170] 0)) := Lib.hid (by
    have := frame_ 1 (some ⟨w.heap.size, 0, none⟩) [97] 1 W1 (hW1 ▸ bytes_new w [97] (1, 2)) (by simp) (fun q => by cases q) (by decide) (by simp)
    rw [sure_rec] at this
    exact this)
  have HBA : Hid (Below w.heap.size w W1) := Lib.hid (by rw [hW1]; exact below_alloc _ _)
  go_enter Try.func8, Try.ntmps8
  go_wp2_with fail
  rw [← hW1]
  clear hW1 kc
  refine HF.out.mono ?_
  rintro e w1 ⟨a1, c1, rfl, hO, hI, hN, hB⟩
  have hcap := own_cap hO
  obtain ⟨g, rfl⟩ := own_at hO (by simp)
  have hI3 : BytesIn w1 (some ⟨g, 0, none⟩) [1, 1, 97] := take_in hI 3
  have hcv := conv_ w1 (some ⟨g, 0, none⟩) 3 c1 [1, 1, 97] rfl hI3
  have hbs : bs [1, 1, 97] = ⟨#[1, 1, 97]⟩ := rfl
  rw [hbs] at hcv
  have HB := Lib.hid (below_step HBA.out hB)
  have e0 : errV 0 = .nilIface := rfl
  rw [e0]
  simp only [List.length_cons, List.length_nil] at hcap ⊢
  have hc3 : (3 : Int) ≤ c1 := by omega
  clear hO hI hN hB hI3 HF HBA hbs
  go_wp2_with fail
  go_ret
  exact ⟨rfl, HB.out⟩
end Go.Proofs.Ytbplklfkkmhijaa
