/- The walk of TreeRuns. -/
import Derived.Test.YtlpkpookheafpaaJRnC
namespace Go.Proofs.Ytlpkpookheafpaa
open Go.RowKit Go.Sort

set_option maxRecDepth 100000 in
set_option maxHeartbeats 4000000 in
theorem law_runs (a : Option Addr) (n c : Nat) (f : Nat → ActV) (W : World) (hin : ActsAt W a n f) :
    Calls Try.prog 3 #[.slice a n c] W fun e W' => e = .returned (.bool true) ∧ Below W.heap.size W W' := by
  have HN : Hid (Calls Try.prog 7 #[] W fun e w1 => ∃ p, e = .returned (.pointer (some ⟨p, 0, none⟩)) ∧ Hid (St2 W W w1 p (.slice none 0 0) [])) := (on_new W).mono fun e w1 ⟨p, e1, h1⟩ => ⟨p, e1, h1.out, World.ownsRow_nil _ _ _ _, h1.out.below⟩
  have HSure : Hid (∀ V, Calls Try.prog 17 #[] V fun e w' => e = .returned (.bool true) ∧ Hid (Below V.heap.size V w')) := fun V => sure_ V
  have HIn : Hid (∀ V, Below W.heap.size W V → ∀ i, i < n → ∃ z k x b o, a = some ⟨b, o, none⟩ ∧ V.cell? ⟨b, o + i * 3, none⟩ = some (.int .i64 z) ∧ V.cell? ⟨b, o + i * 3 + 1, none⟩ = some (.string k) ∧ V.cell? ⟨b, o + i * 3 + 2, none⟩ = some (.string x)) := fun V hV i hi => by
    obtain ⟨⟨b, o, e, h1, h2, h3⟩, _⟩ := hin.on rfl hV i hi
    exact ⟨_, _, _, b, o, e, h1, h2, h3⟩
  clear hin
  go_enter Try.func3, Try.ntmps3
  go_wp2_with (first
    | (go_at_call 7; refine HN.out.mono ?_; rintro e w1 ⟨p, rfl, H1⟩)
    | fail)
  clear HN
  go_loopg [4, 5] n (fun kx s4 s5 wr => ∃ (i : Nat) (a4 : Option Addr) (m4 c4 : Nat), s5 = .int .i64 i ∧ s4 = .slice a4 m4 c4 ∧ i ≤ n ∧ i ≤ 300 ∧ n - i ≤ kx ∧ Hid (∃ lt, St2 W W wr p (.slice a4 m4 c4) lt ∧ lt.length ≤ i))
  case atStart => exact ⟨0, none, 0, 0, rfl, rfl, Nat.zero_le _, Nat.zero_le _, by omega, ⟨[], H1.out, Nat.le_refl _⟩⟩
  case round =>
    clear H1
    obtain ⟨i, a4, m4, c4, rfl, rfl, hi, hi3, hk, HO⟩ := hrel
    obtain ⟨lt, ho, hll⟩ := HO.out
    obtain rfl := ho.row.cap.1
    clear HO
    by_cases hgo : i < n ∧ i < 300
    · obtain ⟨hlt, hlt3⟩ := hgo
      obtain ⟨z, kk, x, b, o, rfl, h0, h1, h2⟩ := HIn.out wr ho.below i hlt
      have hsr := ho.on'.srt
      have hw1 := wraps_i64 ((i : Int) + 1) (by omega) (by omega)
      have hlt' : (i : Int) < (n : Int) := by omega
      have hlt3' : (i : Int) < 300 := by omega
      obtain ⟨ar, har⟩ : ∃ ar : Nat, (z % 18446744073709551616) % 4 = (ar : Int) := ⟨((z % 18446744073709551616) % 4).toNat, by omega⟩
      have hwz : IntKind.u64.wrap z = z % 18446744073709551616 := by rw [IntKind.wrap_u64]
      have hwr : IntKind.u64.wrap ((z % 18446744073709551616) % 4) = (ar : Int) := by rw [har, IntKind.wrap_u64]; omega
      have hwa2 := wraps_i64 (ar : Int) (by omega) (by omega)
      have ht1 : (z % 18446744073709551616).tmod 4 = (ar : Int) := by rw [Int.tmod_eq_emod_of_nonneg (by omega)]; exact har
      obtain ⟨V3, hst, hact, hb3⟩ := act_new wr z kk x
      have g0 : V3.cell? ⟨wr.heap.size, 0, none⟩ = some (.int .i64 z) := cell_of hact rfl
      have g1 : V3.cell? ⟨wr.heap.size, 1, none⟩ = some (.string kk) := cell_of hact rfl
      have g2 : V3.cell? ⟨wr.heap.size, 2, none⟩ = some (.string x) := cell_of hact rfl
      have HS3 : Hid (St3 W V3 p wr.heap.size (.slice a4 lt.length c4) lt z kk x) := ⟨ho.on hb3, hact⟩
      have har4 : ar = 0 ∨ ar = 1 ∨ ar = 2 ∨ ar = 3 := by omega
      clear ho hact hb3 HIn HSure
      rcases har4 with rfl | rfl | rfl | rfl
      · have HP : Hid (Calls Try.prog 8 #[.pointer (some ⟨p, 0, none⟩), .string kk, .string x] V3 fun e V4 => e = .returned (.tuple #[.string ((get kk lt).getD ⟨#[]⟩), .bool (get kk lt).isSome]) ∧ V4.cell? ⟨wr.heap.size, 1, none⟩ = some (.string kk) ∧ V4.cell? ⟨wr.heap.size, 2, none⟩ = some (.string x) ∧ Hid (St4 W V4 p wr.heap.size (.slice a4 lt.length c4) lt (ins kk x lt) z kk x)) := (HS3.out.put (by omega)).mono fun e V4 ⟨e1, g⟩ => ⟨e1, cell_of g.act rfl, cell_of g.act rfl, g⟩
        have HR : Hid (∀ V, St4 W V p wr.heap.size (.slice a4 lt.length c4) lt (ins kk x lt) z kk x → Calls Try.prog 9 #[.slice a4 lt.length c4, .string kk, .string x] V fun e V5 => ∃ a5 c5, e = .returned (.tuple #[.slice a5 (ins kk x lt).length c5, .string ((get kk lt).getD ⟨#[]⟩), .bool (get kk lt).isSome]) ∧ V5.cell? ⟨wr.heap.size, 1, none⟩ = some (.string kk) ∧ Hid (St3 W V5 p wr.heap.size (.slice a5 (ins kk x lt).length c5) (ins kk x lt) z kk x)) := fun V hV => (hV.rput (by omega)).mono fun e V5 ⟨a5, c5, e1, g⟩ => ⟨a5, c5, e1, cell_of g.act rfl, g⟩
        have HLe : Hid ((ins kk x lt).length ≤ i + 1) := Nat.le_trans (ins_le hsr _ _) (by omega)
        have HLn : Hid (∀ V a5 c5, St3 W V p wr.heap.size (.slice a5 (ins kk x lt).length c5) (ins kk x lt) z kk x → Calls Try.prog 12 #[.pointer (some ⟨p, 0, none⟩)] V fun e V' => e = .returned (.int .i64 (ins kk x lt).length) ∧ V' = V) := fun V a5 c5 hV => hV.len
        have HAs : Hid (∀ V a5 c5, St3 W V p wr.heap.size (.slice a5 (ins kk x lt).length c5) (ins kk x lt) z kk x → Calls Try.prog 13 #[.pointer (some ⟨p, 0, none⟩), .slice a5 (ins kk x lt).length c5, .string kk] V fun e V' => e = .returned (.bool true) ∧ Hid (St2 W W V' p (.slice a5 (ins kk x lt).length c5) (ins kk x lt))) := fun V a5 c5 hV => hV.asks (by have := HLe.out; omega)
        obtain ⟨l2, hl2⟩ : ∃ l2, l2 = ins kk x lt := ⟨_, rfl⟩
        rw [← hl2] at HP HR HLe HLn HAs
        clear hl2 HS3 hsr hll har
        generalize (get kk lt).getD ⟨#[]⟩ = gv at *
        generalize (get kk lt).isSome = gb at *
        generalize lt.length = L at *
        obtain ⟨L2, hL2⟩ : ∃ L2, L2 = l2.length := ⟨_, rfl⟩
        rw [← hL2] at HR HLe HLn HAs
        have HL2 := Lib.hid hL2
        clear hL2
        go_wp2_with (first
          | (refine wpList_store_at rfl _ _ _ rfl _ _ rfl rfl hst ?_; clear hst)
          | (go_at_call 8; refine HP.out.mono ?_; rintro e V4 ⟨rfl, f1, f2, H4⟩; clear HP)
          | (go_at_call 9; refine (HR.out _ H4.out).mono ?_; rintro e V5 ⟨a5, c5, rfl, f3, H5⟩; clear HR H4)
          | (go_at_call 12; refine (HLn.out _ _ _ H5.out).mono ?_; rintro e V6 ⟨rfl, hw⟩; have hw := hw.symm; subst hw; clear HLn)
          | (go_at_call 13; refine (HAs.out _ _ _ H5.out).mono ?_; rintro e V7 ⟨rfl, H7⟩; clear HAs H5)
          | fail)
        go_roundg (n - (i + 1))
        case measure => omega
        case rel => exact ⟨i + 1, a5, L2, c5, by rw [show (i : Int) + 1 = ((i + 1 : Nat) : Int) by omega], rfl, by omega, by omega, Nat.le_refl _, ⟨l2, H7.out, by rw [← HL2.out]; exact HLe.out⟩⟩
      · have HP : Hid (Calls Try.prog 8 #[.pointer (some ⟨p, 0, none⟩), .string kk, .string x] V3 fun e V4 => e = .returned (.tuple #[.string ((get kk lt).getD ⟨#[]⟩), .bool (get kk lt).isSome]) ∧ V4.cell? ⟨wr.heap.size, 1, none⟩ = some (.string kk) ∧ V4.cell? ⟨wr.heap.size, 2, none⟩ = some (.string x) ∧ Hid (St4 W V4 p wr.heap.size (.slice a4 lt.length c4) lt (ins kk x lt) z kk x)) := (HS3.out.put (by omega)).mono fun e V4 ⟨e1, g⟩ => ⟨e1, cell_of g.act rfl, cell_of g.act rfl, g⟩
        have HR : Hid (∀ V, St4 W V p wr.heap.size (.slice a4 lt.length c4) lt (ins kk x lt) z kk x → Calls Try.prog 9 #[.slice a4 lt.length c4, .string kk, .string x] V fun e V5 => ∃ a5 c5, e = .returned (.tuple #[.slice a5 (ins kk x lt).length c5, .string ((get kk lt).getD ⟨#[]⟩), .bool (get kk lt).isSome]) ∧ V5.cell? ⟨wr.heap.size, 1, none⟩ = some (.string kk) ∧ Hid (St3 W V5 p wr.heap.size (.slice a5 (ins kk x lt).length c5) (ins kk x lt) z kk x)) := fun V hV => (hV.rput (by omega)).mono fun e V5 ⟨a5, c5, e1, g⟩ => ⟨a5, c5, e1, cell_of g.act rfl, g⟩
        have HLe : Hid ((ins kk x lt).length ≤ i + 1) := Nat.le_trans (ins_le hsr _ _) (by omega)
        have HLn : Hid (∀ V a5 c5, St3 W V p wr.heap.size (.slice a5 (ins kk x lt).length c5) (ins kk x lt) z kk x → Calls Try.prog 12 #[.pointer (some ⟨p, 0, none⟩)] V fun e V' => e = .returned (.int .i64 (ins kk x lt).length) ∧ V' = V) := fun V a5 c5 hV => hV.len
        have HAs : Hid (∀ V a5 c5, St3 W V p wr.heap.size (.slice a5 (ins kk x lt).length c5) (ins kk x lt) z kk x → Calls Try.prog 13 #[.pointer (some ⟨p, 0, none⟩), .slice a5 (ins kk x lt).length c5, .string kk] V fun e V' => e = .returned (.bool true) ∧ Hid (St2 W W V' p (.slice a5 (ins kk x lt).length c5) (ins kk x lt))) := fun V a5 c5 hV => hV.asks (by have := HLe.out; omega)
        obtain ⟨l2, hl2⟩ : ∃ l2, l2 = ins kk x lt := ⟨_, rfl⟩
        rw [← hl2] at HP HR HLe HLn HAs
        clear hl2 HS3 hsr hll har
        generalize (get kk lt).getD ⟨#[]⟩ = gv at *
        generalize (get kk lt).isSome = gb at *
        generalize lt.length = L at *
        obtain ⟨L2, hL2⟩ : ∃ L2, L2 = l2.length := ⟨_, rfl⟩
        rw [← hL2] at HR HLe HLn HAs
        have HL2 := Lib.hid hL2
        clear hL2
        go_wp2_with (first
          | (refine wpList_store_at rfl _ _ _ rfl _ _ rfl rfl hst ?_; clear hst)
          | (go_at_call 8; refine HP.out.mono ?_; rintro e V4 ⟨rfl, f1, f2, H4⟩; clear HP)
          | (go_at_call 9; refine (HR.out _ H4.out).mono ?_; rintro e V5 ⟨a5, c5, rfl, f3, H5⟩; clear HR H4)
          | (go_at_call 12; refine (HLn.out _ _ _ H5.out).mono ?_; rintro e V6 ⟨rfl, hw⟩; have hw := hw.symm; subst hw; clear HLn)
          | (go_at_call 13; refine (HAs.out _ _ _ H5.out).mono ?_; rintro e V7 ⟨rfl, H7⟩; clear HAs H5)
          | fail)
        go_roundg (n - (i + 1))
        case measure => omega
        case rel => exact ⟨i + 1, a5, L2, c5, by rw [show (i : Int) + 1 = ((i + 1 : Nat) : Int) by omega], rfl, by omega, by omega, Nat.le_refl _, ⟨l2, H7.out, by rw [← HL2.out]; exact HLe.out⟩⟩
      · have HP : Hid (Calls Try.prog 10 #[.pointer (some ⟨p, 0, none⟩), .string kk] V3 fun e V4 => e = .returned (.tuple #[.string ((get kk lt).getD ⟨#[]⟩), .bool (get kk lt).isSome]) ∧ V4.cell? ⟨wr.heap.size, 1, none⟩ = some (.string kk) ∧ V4.cell? ⟨wr.heap.size, 2, none⟩ = some (.string x) ∧ Hid (St4 W V4 p wr.heap.size (.slice a4 lt.length c4) lt (del kk lt) z kk x)) := (HS3.out.drop (by omega)).mono fun e V4 ⟨e1, g⟩ => ⟨e1, cell_of g.act rfl, cell_of g.act rfl, g⟩
        have HR : Hid (∀ V, St4 W V p wr.heap.size (.slice a4 lt.length c4) lt (del kk lt) z kk x → Calls Try.prog 11 #[.slice a4 lt.length c4, .string kk] V fun e V5 => ∃ a5 c5, e = .returned (.tuple #[.slice a5 (del kk lt).length c5, .string ((get kk lt).getD ⟨#[]⟩), .bool (get kk lt).isSome]) ∧ V5.cell? ⟨wr.heap.size, 1, none⟩ = some (.string kk) ∧ Hid (St3 W V5 p wr.heap.size (.slice a5 (del kk lt).length c5) (del kk lt) z kk x)) := fun V hV => (hV.rdrop (by omega)).mono fun e V5 ⟨a5, c5, e1, g⟩ => ⟨a5, c5, e1, cell_of g.act rfl, g⟩
        have HLe : Hid ((del kk lt).length ≤ i + 1) := Nat.le_trans (del_le hsr kk) (by omega)
        have HLn : Hid (∀ V a5 c5, St3 W V p wr.heap.size (.slice a5 (del kk lt).length c5) (del kk lt) z kk x → Calls Try.prog 12 #[.pointer (some ⟨p, 0, none⟩)] V fun e V' => e = .returned (.int .i64 (del kk lt).length) ∧ V' = V) := fun V a5 c5 hV => hV.len
        have HAs : Hid (∀ V a5 c5, St3 W V p wr.heap.size (.slice a5 (del kk lt).length c5) (del kk lt) z kk x → Calls Try.prog 13 #[.pointer (some ⟨p, 0, none⟩), .slice a5 (del kk lt).length c5, .string kk] V fun e V' => e = .returned (.bool true) ∧ Hid (St2 W W V' p (.slice a5 (del kk lt).length c5) (del kk lt))) := fun V a5 c5 hV => hV.asks (by have := HLe.out; omega)
        obtain ⟨l2, hl2⟩ : ∃ l2, l2 = del kk lt := ⟨_, rfl⟩
        rw [← hl2] at HP HR HLe HLn HAs
        clear hl2 HS3 hsr hll har
        generalize (get kk lt).getD ⟨#[]⟩ = gv at *
        generalize (get kk lt).isSome = gb at *
        generalize lt.length = L at *
        obtain ⟨L2, hL2⟩ : ∃ L2, L2 = l2.length := ⟨_, rfl⟩
        rw [← hL2] at HR HLe HLn HAs
        have HL2 := Lib.hid hL2
        clear hL2
        go_wp2_with (first
          | (refine wpList_store_at rfl _ _ _ rfl _ _ rfl rfl hst ?_; clear hst)
          | (go_at_call 10; refine HP.out.mono ?_; rintro e V4 ⟨rfl, f1, f2, H4⟩; clear HP)
          | (go_at_call 11; refine (HR.out _ H4.out).mono ?_; rintro e V5 ⟨a5, c5, rfl, f3, H5⟩; clear HR H4)
          | (go_at_call 12; refine (HLn.out _ _ _ H5.out).mono ?_; rintro e V6 ⟨rfl, hw⟩; have hw := hw.symm; subst hw; clear HLn)
          | (go_at_call 13; refine (HAs.out _ _ _ H5.out).mono ?_; rintro e V7 ⟨rfl, H7⟩; clear HAs H5)
          | fail)
        go_roundg (n - (i + 1))
        case measure => omega
        case rel => exact ⟨i + 1, a5, L2, c5, by rw [show (i : Int) + 1 = ((i + 1 : Nat) : Int) by omega], rfl, by omega, by omega, Nat.le_refl _, ⟨l2, H7.out, by rw [← HL2.out]; exact HLe.out⟩⟩
      · have HLe : Hid (lt.length ≤ i + 1) := Nat.le_trans hll (by omega)
        have HLn : Hid (∀ V a5 c5, St3 W V p wr.heap.size (.slice a5 lt.length c5) lt z kk x → Calls Try.prog 12 #[.pointer (some ⟨p, 0, none⟩)] V fun e V' => e = .returned (.int .i64 lt.length) ∧ V' = V) := fun V a5 c5 hV => hV.len
        have HAs : Hid (∀ V a5 c5, St3 W V p wr.heap.size (.slice a5 lt.length c5) lt z kk x → Calls Try.prog 13 #[.pointer (some ⟨p, 0, none⟩), .slice a5 lt.length c5, .string kk] V fun e V' => e = .returned (.bool true) ∧ Hid (St2 W W V' p (.slice a5 lt.length c5) lt)) := fun V a5 c5 hV => hV.asks (by have := HLe.out; omega)
        clear hsr hll har
        obtain ⟨L, hL⟩ : ∃ L, L = lt.length := ⟨_, rfl⟩
        rw [← hL] at HLe HLn HAs HS3
        rw [← hL]
        have HL2 := Lib.hid hL
        clear hL
        go_wp2_with (first
          | (refine wpList_store_at rfl _ _ _ rfl _ _ rfl rfl hst ?_; clear hst)
          | (go_at_call 12; refine (HLn.out _ _ _ HS3.out).mono ?_; rintro e V6 ⟨rfl, hw⟩; have hw := hw.symm; subst hw; clear HLn)
          | (go_at_call 13; refine (HAs.out _ _ _ HS3.out).mono ?_; rintro e V7 ⟨rfl, H7⟩; clear HAs HS3)
          | fail)
        go_roundg (n - (i + 1))
        case measure => omega
        case rel => exact ⟨i + 1, a4, L, c4, by rw [show (i : Int) + 1 = ((i + 1 : Nat) : Int) by omega], rfl, by omega, by omega, Nat.le_refl _, ⟨lt, H7.out, by rw [← HL2.out]; exact HLe.out⟩⟩
    · have hex : (¬ (i : Int) < (n : Int)) ∨ ((i : Int) < (n : Int) ∧ ¬ (i : Int) < 300) := by omega
      have hL3 : lt.length ≤ 300 := by omega
      have HKey : Hid (∀ (V : World) (kv : Value) (j : Nat), (Below wr.heap.size wr V ∧ RowK V wr.heap.size kv ((lt.map (·.1)).take j)) → j < lt.length → ∃ g x1 U, (∃ c, Value.slice a4 lt.length c4 = .slice (some ⟨g, 0, none⟩) lt.length c) ∧ V.cell? ⟨g, j * 2, none⟩ = some (.string x1) ∧ (∀ (a : Act) (o : Oper) (z : Operand), o.op = .buildSlice 37 1 #[(0, z)] → a.eval z = .string x1 → (execOp a.eval o).run Try.prog V = .ok (.value (.slice (some ⟨V.heap.size, 0, none⟩) 1 1)) U) ∧
        ∃ a m c V', (Builtin.append_ #[37, 37] 37 #[kv, .slice (some ⟨V.heap.size, 0, none⟩) 1 1]).run Try.prog U = .ok (.slice a m c) V' ∧ Hid (Below wr.heap.size wr V' ∧ RowK V' wr.heap.size (.slice a m c) ((lt.map (·.1)).take (j + 1)))) := fun V kv j hV hj => key_step ho.row hV.1 hV.2 hj (by omega)
      have HK0 : Hid (Below wr.heap.size wr wr ∧ RowK wr wr.heap.size (.slice none 0 0) ((lt.map (·.1)).take 0)) := ⟨Below.refl _ _, World.ownsRow_nil _ _ _ _⟩
      obtain ⟨B, hB⟩ : ∃ B, B = wr.heap.size := ⟨_, rfl⟩
      have HZ : Hid (∀ V kv, (Below wr.heap.size wr V ∧ RowK V wr.heap.size kv ((lt.map (·.1)).take lt.length)) → Zt W V p B (.slice a4 lt.length c4) kv lt) := fun V kv hV => by
        rw [hB]
        exact ⟨ho.on hV.1, by have := hV.2; rw [show lt.length = (lt.map (·.1)).length by simp, List.take_length] at this; exact this⟩
      have HFi : Hid (∀ V kv, Zt W V p B (.slice a4 lt.length c4) kv lt → Calls Try.prog 14 #[.pointer (some ⟨p, 0, none⟩)] V fun e V' => e = .returned (.tuple #[.string (o1 lt.head?), .string (o2 lt.head?), .bool (isB lt.head?)]) ∧ Hid (Zt W V' p B (.slice a4 lt.length c4) kv lt)) := fun V kv hV => hV.first
      have HLa : Hid (∀ V kv, Zt W V p B (.slice a4 lt.length c4) kv lt → Calls Try.prog 15 #[.pointer (some ⟨p, 0, none⟩)] V fun e V' => e = .returned (.tuple #[.string (o1 lt.getLast?), .string (o2 lt.getLast?), .bool (isB lt.getLast?)]) ∧ Hid (Zt W V' p B (.slice a4 lt.length c4) kv lt)) := fun V kv hV => hV.last
      have HKs : Hid (∀ V kv, Zt W V p B (.slice a4 lt.length c4) kv lt → Calls Try.prog 16 #[.pointer (some ⟨p, 0, none⟩)] V fun e V' => ∃ a2 c2, e = .returned (.slice a2 lt.length c2) ∧ Hid (Zt W V' p B (.slice a4 lt.length c4) kv lt ∧ Tx V' a2 (lt.map (·.1)))) := fun V kv hV => hV.keys (by omega)
      have HBl : Hid (∀ V kv, Zt W V p B (.slice a4 lt.length c4) kv lt → Below W.heap.size W V) := fun V kv hV => hV.st.below
      have HBB := Lib.hid hB
      clear hB
      have HTs : Hid (∀ V ak mk ck a2 c2, Zt W V p B (.slice a4 lt.length c4) (.slice ak mk ck) lt ∧ Tx V a2 (lt.map (·.1)) → Calls Try.prog 18 #[.slice a2 lt.length c2, .slice ak mk ck] V fun e V' => e = .returned (.bool true) ∧ Zt W V' p B (.slice a4 lt.length c4) (.slice ak mk ck) lt) := fun V ak mk ck a2 c2 hV => hV.1.texts (by omega) hV.2
      clear ho hll HIn hk hi hi3 hgo
      obtain ⟨L, hL⟩ : ∃ L, L = lt.length := ⟨_, rfl⟩
      rw [← hL] at HKey HZ HFi HLa HKs HBl HTs hL3
      have HLL := Lib.hid hL
      rw [← hL]
      clear hL
      obtain ⟨WI, hWI⟩ : ∃ WI, WI = wr := ⟨_, rfl⟩
      rw [← hWI] at HKey HZ HK0
      have HWI := Lib.hid hWI
      clear hWI HBB
      rcases hex with hx1 | ⟨hx1, hx2⟩
      all_goals
        go_wp2_with fail
        go_loopg [11, 12] L (fun kx s11 s12 V => ∃ (j : Nat) (a11 : Option Addr) (m11 c11 : Nat), s12 = .int .i64 j ∧ s11 = .slice a11 m11 c11 ∧ j ≤ L ∧ L - j ≤ kx ∧ Hid (Below WI.heap.size WI V ∧ RowK V WI.heap.size (.slice a11 m11 c11) ((lt.map (·.1)).take j)))
        case atStart => exact ⟨0, none, 0, 0, rfl, rfl, Nat.zero_le _, by omega, by rw [← HWI.out]; exact HK0⟩
        case round =>
          clear HK0 HWI
          obtain ⟨j, a11, m11, c11, rfl, rfl, hj, hkx, HK⟩ := hrel
          by_cases hlt2 : j < L
          · obtain ⟨g, x1, U, ⟨c', e4⟩, d0, hrb, a11', m11', c11', V', hap, HK'⟩ := HKey.out _ _ j HK.out hlt2
            cases e4
            have HRb := Lib.hid hrb
            have hw1 := wraps_i64 ((j : Int) + 1) (by omega) (by omega)
            clear hrb HKey HZ HFi HLa HKs HBl HTs HK HSure
            go_wp2_with (first
              | (refine wpList_exec rfl (HRb.out _ _ _ rfl rfl) ?_; clear HRb)
              | (refine wpList_exec rfl (exec_append rfl rfl rfl hap) ?_; clear hap)
              | fail)
            go_roundg (L - (j + 1))
            case measure => omega
            case rel => exact ⟨j + 1, a11', m11', c11', by rw [show (j : Int) + 1 = ((j + 1 : Nat) : Int) by omega], rfl, by omega, Nat.le_refl _, HK'⟩
          · obtain rfl : j = L := by omega
            have HZ0 := Lib.hid (HZ.out _ _ HK.out)
            clear HKey HZ HK
            by_cases hl0 : lt = []
            · subst hl0
              obtain rfl : j = 0 := HLL.out
              simp only [List.head?_nil, List.getLast?_nil, o1, o2, isB, Option.isSome_none] at HFi HLa
              have hem : ((⟨#[]⟩ : ByteArray) ++ (⟨#[]⟩ : ByteArray) ++ (⟨#[]⟩ : ByteArray) ++ (⟨#[]⟩ : ByteArray)).toList = [] := by rw [Lib.toList_data]; rfl
              clear HTs HLL
              go_wp2_with (first
                | (go_at_call 14; refine (HFi.out _ _ HZ0.out).mono ?_; rintro e V1 ⟨rfl, H1⟩; clear HFi HZ0)
                | (go_at_call 15; refine (HLa.out _ _ H1.out).mono ?_; rintro e V2 ⟨rfl, H2⟩; clear HLa H1)
                | (go_at_call 16; refine (HKs.out _ _ H2.out).mono ?_; rintro e V3 ⟨a2, c2, rfl, H3⟩; clear HKs H2)
                | (go_at_call 17; refine (HSure.out _).mono ?_; rintro e V4 ⟨rfl, H4⟩)
                | fail)
              go_ret
              exact ⟨rfl, below_step (HBl.out _ _ H3.out.1) H4.out⟩
            · obtain ⟨x, y, e, k1, k2, k3, k4, k5⟩ := ends_of hl0
              obtain ⟨g, rfl, _, _⟩ := HZ0.out.cells k4
              rw [k1] at HFi
              rw [k2] at HLa
              have hje : j = e + 1 := HLL.out.trans k3
              have HTs' : Hid (∀ V ak mk ck a2 c2, Zt W V p B (.slice (some ⟨g, 0, none⟩) j c4) (.slice ak mk ck) lt ∧ Tx V a2 (lt.map (·.1)) → Calls Try.prog 18 #[.slice a2 j c2, .slice ak mk ck] V fun e V' => e = .returned (.bool true) ∧ V'.cell? ⟨g, 0, none⟩ = some (.string x.1) ∧ V'.cell? ⟨g, 1, none⟩ = some (.string x.2) ∧ Hid (Zt W V' p B (.slice (some ⟨g, 0, none⟩) j c4) (.slice ak mk ck) lt)) := fun V ak mk ck a2 c2 hV => (HTs.out V ak mk ck a2 c2 hV).mono fun e V' ⟨e1, h1⟩ => by
                obtain ⟨g', eg, q1, q2⟩ := h1.cells k4
                cases eg
                exact ⟨e1, q1, q2, h1⟩
              have HP1 : Hid (∀ V kv, Zt W V p B (.slice (some ⟨g, 0, none⟩) j c4) kv lt → Calls Try.prog 19 #[.string x.1, .string x.2, .bool true, .agg #[.string x.1, .string x.2], .bool true] V fun e' V' => e' = .returned (.bool true) ∧ V'.cell? ⟨g, e * 2, none⟩ = some (.string y.1) ∧ V'.cell? ⟨g, e * 2 + 1, none⟩ = some (.string y.2) ∧ Hid (Below W.heap.size W V')) := fun V kv hV => (pair_ V x.1 x.2 true).mono fun e V' ⟨e1, hb⟩ => by
                obtain ⟨g', eg, q1, q2⟩ := (hV.on hb).cells k5
                cases eg
                exact ⟨e1, q1, q2, (hV.on hb).st.below⟩
              have HP2 : Hid (∀ V, Below W.heap.size W V → Calls Try.prog 19 #[.string y.1, .string y.2, .bool true, .agg #[.string y.1, .string y.2], .bool true] V fun e' V' => e' = .returned (.bool true) ∧ Hid (Below W.heap.size W V')) := fun V hV => (pair_ V y.1 y.2 true).mono fun e V' ⟨e1, hb⟩ => ⟨e1, below_step hV hb⟩
              simp only [o1, o2, isB, Option.isSome_some] at HFi HLa
              clear HTs HLL k1 k2 k3 k4 k5 HBl hl0
              have hj0 : ((j : Int) == 0) = false := beq_false_of_ne (by omega)
              have hj0' : ¬ (j : Int) = 0 := by omega
              have hje' : (j : Int) - 1 = (e : Int) := by omega
              have hwe := wraps_i64 (e : Int) (by omega) (by omega)
              have hwj := wraps_i64 ((j : Int) - 1) (by omega) (by omega)
              have hej : e < j := by omega
              have hpj : 0 < j := by omega
              clear hje hlt2
              obtain ⟨x1, x2⟩ := x
              obtain ⟨y1, y2⟩ := y
              simp only at HFi HLa HTs' HP1 HP2
              go_wp2_with (first
                | (go_at_call 14; refine (HFi.out _ _ HZ0.out).mono ?_; rintro e' V1 ⟨rfl, H1⟩; clear HFi HZ0)
                | (go_at_call 15; refine (HLa.out _ _ H1.out).mono ?_; rintro e' V2 ⟨rfl, H2⟩; clear HLa H1)
                | (go_at_call 16; refine (HKs.out _ _ H2.out).mono ?_; rintro e' V3 ⟨a2, c2, rfl, H3⟩; clear HKs H2)
                | (go_at_call 18; refine (HTs'.out _ _ _ _ _ _ H3.out).mono ?_; rintro e' V4 ⟨rfl, f1, f2, H4⟩; clear HTs' H3)
                | (go_at_call 19; refine (HP1.out _ _ H4.out).mono ?_; rintro e' V5 ⟨rfl, f3, f4, H5⟩; clear HP1 H4)
                | (go_at_call 19; refine (HP2.out _ H5.out).mono ?_; rintro e' V6 ⟨rfl, H6⟩; clear HP2 H5)
                | (go_at_call 17; refine (HSure.out _).mono ?_; rintro e' V7 ⟨rfl, H7⟩)
                | fail)
              go_ret
              exact ⟨rfl, below_step H6.out H7.out⟩
end Go.Proofs.Ytlpkpookheafpaa
