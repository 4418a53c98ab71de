/- One; []byte(s); the law's sure. -/
import Derived.Test.YtagamkahfiackaaGreatDoorVnChg
import Derived.Test.YtagamkahfiackaaGreatDoorVnPrMath
import Derived.Laws.Tables
import Derived.Lib.SlBytesConst
namespace Go.Proofs.YtagamkahfiackaaGreatDoor
open Go.RowKit Go.Sort

/-- A struct stored into a block of one's own. -/
theorem store_row {N : Nat} {w W : World} {g : Nat} {ty : TypeId} {old : Array Value} (cs : Array Value) (h : W.heap[g]? = some (.cells old ty (0, 0))) (hi : (Tryz.prog.info? ty).map (·.size) = some cs.size) (ho : old.size = cs.size) (h1 : cs.all (·.oneCell') = true) (hg : N ≤ g) (hb : Below N w W) :
    ∃ V, (Instr.storeAt ty (.pointer (some ⟨g, 0, none⟩)) (.agg cs)).run Tryz.prog W = .ok () V ∧ V.heap[g]? = some (.cells cs ty (0, 0)) ∧ Below N w V ∧ (∀ k, k ≠ g → V.heap[k]? = W.heap[k]?) ∧ V.heap.size = W.heap.size := by
  refine ⟨W.setRow g cs, ?_, setRow_heap W g old cs ty (0, 0) h, ⟨hb.os, hb.tape, hb.output, by rw [setRow_size]; exact hb.size, fun k hk => (setRow_other W g k cs (by omega)).trans (hb.block k hk)⟩, fun k hk => setRow_other W g k cs hk, setRow_size W g cs⟩
  simp only [Instr.storeAt, Instr.sureAddr, Sem.run_bind, Sem.run_pure, Result.andThen]
  exact run_storeVar_row W g ty ty old cs h hi ho h1
theorem store_rg {N : Nat} {w W : World} {g : Nat} {old : Array Value} (r : Rg) (h : W.heap[g]? = some (.cells old 28 (0, 0))) (ho : old.size = 6) (hg : N ≤ g) (hb : Below N w W) :
    ∃ V, (Instr.storeAt 28 (.pointer (some ⟨g, 0, none⟩)) (.agg #[.string r.f, .string r.t, .bool r.hf, .bool r.ht, .bool r.pf, .bool r.pt])).run Tryz.prog W = .ok () V ∧ RgAt V g r ∧ Below N w V ∧ (∀ k, k ≠ g → V.heap[k]? = W.heap[k]?) ∧ V.heap.size = W.heap.size := by
  obtain ⟨V, h1, h2, h3⟩ := store_row #[.string r.f, .string r.t, .bool r.hf, .bool r.ht, .bool r.pf, .bool r.pt] h (by kernel_rfl) ho (by simp [Value.oneCell']) hg hb
  exact ⟨V, h1, ⟨cell_of h2 rfl, cell_of h2 rfl, cell_of h2 rfl, cell_of h2 rfl, cell_of h2 rfl, cell_of h2 rfl⟩, h3⟩
theorem conv_new (w : World) (T : ByteArray) : ∃ (W : World) (G : Nat), (convert 9 33 (.string T)).run Tryz.prog w = .ok (.slice (some ⟨w.heap.size, 0, none⟩) T.size G) W ∧ BytesIn W (some ⟨w.heap.size, 0, none⟩) (ns T.data.toList) ∧ (∀ j, j < T.size → W.frozen? ⟨w.heap.size, j, none⟩ = false) ∧ Below w.heap.size w W := by
  refine ⟨_, _, Lib.run_convert_string_bytes (P := Tryz.prog) w 9 33 5 T Tryz.underlying9 Tryz.underlying33 Tryz.underlying5, ?_, ?_, ?_⟩
  · intro j hj
    simp only [ns, List.length_map] at hj
    have hj2 : j < T.size := by rw [size_list]; exact hj
    refine ⟨_, 0, rfl, ?_⟩
    rw [Nat.zero_add, Lib.bytesWorld_cell w _ T j hj2]
    simp only [ns, List.getD_eq_getElem?_getD, List.getElem?_map, List.getElem?_eq_getElem hj]
    rfl
  · intro j hj
    have hs : T.size ≤ (Lib.bytesCells w 5 T).size := by
      unfold Lib.bytesCells
      rw [Array.size_append, Array.size_map]
      exact Nat.le_add_right _ _
    simp only [World.frozen?, Lib.bytesWorld_at_new]
    simp
    omega
  · refine ⟨rfl, rfl, rfl, by rw [Lib.bytesWorld_size]; omega, fun j hj => Lib.bytesWorld_at_old w _ T j hj⟩
theorem ch_put (m : List Ct) (k : ByteArray) (v : PV) : chM k (putM k v m) = withC (chM k m) v := by
  show (get k (putM k v m)).getD [] = _
  unfold putM
  rw [get_ins]; rfl
def tA : ByteArray := ⟨#[97]⟩
def tX : ByteArray := ⟨#[120]⟩
def mS1 : List Ct := putM tA ⟨1, tX, false⟩ []
def mS2 : List Ct := putM tA ⟨3, ⟨#[]⟩, true⟩ mS1
theorem mS1_ok : OkM mS1 := ok_nil.put (by decide) (by decide)
theorem chS1 : chM tA mS1 = [⟨1, tX, false⟩] := by
  unfold mS1
  rw [ch_put]
  rfl
theorem mS2_ok : OkM mS2 := mS1_ok.put (by decide) (by rw [chS1]; decide)
theorem chS2 : chM tA mS2 = [⟨1, tX, false⟩, ⟨3, ⟨#[]⟩, true⟩] := by
  unfold mS2
  rw [ch_put, chS1]
  rfl
theorem rowS2 : rowC (chM tA mS2) 2 = some tX := by
  rw [chS2]
  simp [rowC, asC, loC, rowO]
theorem nS1 : nVer mS1 = 1 := by
  have := nVer_ins (m := []) List.Pairwise.nil tA (withC (chM tA []) ⟨1, tX, false⟩)
  unfold mS1 putM
  simp only [nVer_nil] at this
  have e : (withC (chM tA []) ⟨1, tX, false⟩).length = 1 := rfl
  have e2 : (chM tA ([] : List Ct)).length = 0 := rfl
  omega
theorem nS2 : nVer mS2 = 2 := by
  have := nVer_ins mS1_ok.srt tA (withC (chM tA mS1) ⟨3, ⟨#[]⟩, true⟩)
  unfold mS2 putM
  rw [nS1] at this
  have e : (withC (chM tA mS1) ⟨3, ⟨#[]⟩, true⟩).length = 2 := by rw [chS1]; rfl
  have e2 : (chM tA mS1).length = 1 := by rw [chS1]; rfl
  omega
set_option maxRecDepth 100000 in
set_option maxHeartbeats 1000000 in
theorem sure_ (w : World) : Calls Tryz.prog 15 #[] w fun e w' => e = .returned (.bool true) ∧ Below w.heap.size w w' := by
  have HN := Lib.hid (vnew_ w)
  have HP1 : Hid (∀ ps w1, VnAt w w1 ps [] ∧ w.heap.size ≤ ps → Calls Tryz.prog 19 #[.pointer (some ⟨ps, 0, none⟩), .string ⟨#[97]⟩, .int .i64 1, .slice (some ⟨w1.heap.size, 0, none⟩) 1 1, .bool false] (w1.alloc (.cells #[.int .u8 120] 5 (1, 2))) fun e w' => e = .returned .nilIface ∧ Hid (VnAt w w' ps mS1)) := fun ps w1 h => by
    have hb := below_alloc w1 (.cells #[.int .u8 120] 5 (1, 2))
    have hn := new_blk w1 (.cells #[.int .u8 120] 5 (1, 2))
    refine (vput_row (h.1.on hb) (by rw [nVer_nil]; omega) tA 1 (by omega) (by show (0 : Int) ≤ 1; omega) (s := tX) rfl (fun i hi => ?_) (fun e => by cases e) (by show (1 : Nat) ≤ _; omega)).mono fun e w' ⟨e1, e2⟩ => ⟨e1, e2.out.1⟩
    have hi0 : i = 0 := by have : i < 1 := hi; omega
    subst hi0
    exact ⟨_, 0, rfl, cell_of hn rfl⟩
  have HP2 : Hid (∀ ps w1, VnAt w w1 ps mS1 → Calls Tryz.prog 19 #[.pointer (some ⟨ps, 0, none⟩), .string ⟨#[97]⟩, .int .i64 3, .slice none 0 0, .bool true] w1 fun e w' => e = .returned .nilIface ∧ Hid (VnAt w w' ps mS2)) := fun ps w1 h =>
    (vput_gone h (by rw [nS1]; omega) tA 3 (by omega) (by rw [chS1]; decide) none 0 0).mono fun e w' ⟨e1, e2⟩ => ⟨e1, e2.out.1⟩
  have HG : Hid (∀ ps w1, VnAt w w1 ps mS2 → Calls Tryz.prog 6 #[.pointer (some ⟨ps, 0, none⟩), .string ⟨#[97]⟩, .int .i64 2] w1 fun e w' => ∃ r : Vl, e = .returned (.tuple #[.slice r.a r.n r.c, .bool true]) ∧ (∀ V, Below w'.heap.size w' V → (convert 33 9 (.slice r.a r.n r.c)).run Tryz.prog V = .ok (.string ⟨#[120]⟩) V) ∧ Hid (VnAt w w' ps mS2)) := fun ps w1 h => by
    have := vget_ h (by rw [nS2]; omega) tA 2
    rw [rowS2] at this
    refine this.mono fun e w' ⟨r, e1, h1, _, h3⟩ => ⟨r, e1, fun V hV => ?_, h.on h3⟩
    obtain ⟨b1, b2, _⟩ := (h1.on hV).bytes
    have := conv_ V r.a r.n r.c _ b1 b2
    rw [bs_bsN] at this
    exact this
  have HV : Hid (∀ ps w1, VnAt w w1 ps mS2 → Calls Tryz.prog 8 #[.pointer (some ⟨ps, 0, none⟩)] w1 fun e w' => e = .returned (.int .i64 2) ∧ Hid (VnAt w w' ps mS2)) := fun ps w1 h => by
    have := versions_ h (by rw [nS2]; omega)
    rw [nS2] at this
    exact this.mono fun e w' ⟨e1, e2⟩ => ⟨e1, h.on e2⟩
  have kc := fun (w : World) (C : Array Value) (n c : Nat) => Lib.run_convert_bytes_const (P := Tryz.prog) w 33 5 C n c Tryz.underlying33 Tryz.underlying5
  go_enter Tryz.func15, Tryz.ntmps15
  go_wp2_with (first
    | (go_at_call 4; refine HN.out.mono ?_; rintro e w1 ⟨ps, rfl, H1⟩; clear HN)
    | (go_at_call_of 19 (#[.pointer (some ⟨ps, 0, none⟩), .string ⟨#[97]⟩, .int .i64 1, .slice (some ⟨w1.heap.size, 0, none⟩) 1 1, .bool false] : Array Value); refine (HP1.out ps _ H1.out).mono ?_; rintro e w2 ⟨rfl, H2⟩; clear HP1)
    | (go_at_call_of 19 (#[.pointer (some ⟨ps, 0, none⟩), .string ⟨#[97]⟩, .int .i64 3, .slice none 0 0, .bool true] : Array Value); refine (HP2.out ps _ H2.out).mono ?_; rintro e w3 ⟨rfl, H3⟩; clear HP2)
    | (go_at_call 6; refine (HG.out ps _ H3.out).mono ?_; rintro e w4 ⟨r, rfl, hcv, H4⟩; have hcw := hcv w4 (Below.refl _ _); clear HG hcv)
    | (go_at_call 8; refine (HV.out ps _ H4.out).mono ?_; rintro e w5 ⟨rfl, H5⟩; clear HV)
    | fail)
  go_ret
  exact ⟨rfl, H5.out.below⟩
end Go.Proofs.YtagamkahfiackaaGreatDoor
