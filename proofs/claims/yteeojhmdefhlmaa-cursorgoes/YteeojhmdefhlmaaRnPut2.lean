/- The document's Put, Drop. -/
import Derived.Test.YteeojhmdefhlmaaRnPut
namespace Go.Proofs.Yteeojhmdefhlmaa
open Go.RowKit Go.Sort

/-- What the document's Put and Drop leave. -/
def RefTo (w : World) (l' : List It) (g : Option ByteArray) (e : Ending) (w' : World) : Prop := ∃ a m c, e = .returned (.tuple #[.slice a m c, .string (g.getD ⟨#[]⟩), .bool g.isSome]) ∧ RowR w' 0 (.slice a m c) l' ∧ Below w.heap.size w w'
def Chain (w1 : World) (a : Option Addr) (c i : Nat) (x : It) (A : List It) (Z : Option Addr → Nat → Nat → World → Prop) : Prop :=
  ∃ a1 m1 c1 V1 U a2 m2 c2 V2, (Builtin.append_ #[39, 39] 39 #[.slice none 0 0, .slice a i c]).run Try.prog w1 = .ok (.slice a1 m1 c1) V1 ∧
    Hid (∀ (act : Act) (o : Oper) (y : Operand), o.op = .buildSlice 39 1 #[(0, y)] → act.eval y = .agg #[.string x.1, .string x.2] → (execOp act.eval o).run Try.prog V1 = .ok (.value (.slice (some ⟨V1.heap.size, 0, none⟩) 1 1)) U) ∧
    (Builtin.append_ #[39, 39] 39 #[.slice a1 m1 c1, .slice (some ⟨V1.heap.size, 0, none⟩) 1 1]).run Try.prog U = .ok (.slice a2 m2 c2) V2 ∧ Hid (RowR V2 w1.heap.size (.slice a2 m2 c2) (A ++ [x]) ∧ Below w1.heap.size w1 V2) ∧ Z a2 m2 c2 V2
theorem put_chain {w1 : World} {B : Nat} {a : Option Addr} {n c : Nat} {l : List It} (hr : RowR w1 B (.slice a n c) l) (hl : l.length ≤ 1000) {i : Nat} (hi : i ≤ l.length) (x : It) {Z : Option Addr → Nat → Nat → World → Prop}
    (hZ : ∀ a2 m2 c2 V2, RowR V2 w1.heap.size (.slice a2 m2 c2) (l.take i ++ [x]) → Below w1.heap.size w1 V2 → Z a2 m2 c2 V2) : Chain w1 a c i x (l.take i) Z := by
  have hti : (l.take i).length ≤ 1000 := by rw [List.length_take]; omega
  obtain ⟨a1, m1, c1, V1, h1, h2, h3, _⟩ := (hr.take hi).app (w := w1) (vo := .slice none 0 0) (L := []) (World.ownsRow_nil w1 w1.heap.size _ _) (Nat.le_refl _) (by simp only [List.length_nil]; omega) (Below.refl _ _) 39
  rw [List.nil_append] at h2
  have hbU := below_alloc V1 (.cells (cI [x]).toArray 47)
  obtain ⟨a2, m2, c2, V2, k1, k2, k3, _⟩ := (src_one (new_blk V1 _)).app (w := w1) (row_on h2 hbU) (Nat.le_trans h3.size hbU.size) (by simp only [List.length_cons, List.length_nil]; omega) (below_step h3 hbU) 39
  exact ⟨a1, m1, c1, V1, _, a2, m2, c2, V2, h1, fun act o y e1 e2 => run_buildR V1 x act o y e1 e2, k1, ⟨k2, k3⟩, hZ _ _ _ _ k2 k3⟩
theorem put_end {w1 V : World} {B : Nat} {a a2 : Option Addr} {n c m2 c2 : Nat} {l L : List It} (hr : RowR w1 B (.slice a n c) l) (hV : Below w1.heap.size w1 V) (h2 : RowR V w1.heap.size (.slice a2 m2 c2) L) (hl : l.length ≤ 1000) (hL : L.length ≤ 2000) {j : Nat} (hj : j ≤ l.length) :
    ∃ a3 m3 c3 V3, (Builtin.append_ #[39, 39] 39 #[.slice a2 m2 c2, .slice (subA a c j) (l.length - j) (c - j)]).run Try.prog V = .ok (.slice a3 m3 c3) V3 ∧ RowR V3 w1.heap.size (.slice a3 m3 c3) (L ++ l.drop j) ∧ Below w1.heap.size w1 V3 := by
  obtain ⟨a3, m3, c3, V3, k1, k2, k3, _⟩ := ((hr.drop hj).on hV).app (w := w1) h2 hV.size (by rw [List.length_drop]; omega) hV 39
  exact ⟨a3, m3, c3, V3, k1, k2, k3⟩
theorem RowR.cap {w : World} {B : Nat} {a : Option Addr} {n c : Nat} {l : List It} (h : RowR w B (.slice a n c) l) : n = l.length ∧ l.length ≤ c := by
  obtain ⟨a', c', e, _, _, h1, _⟩ := row_shape h
  simp only [Value.slice.injEq] at e
  obtain ⟨_, rfl, rfl⟩ := e
  exact ⟨rfl, h1⟩
/-- A list about a key, cut. -/
theorem cut_new {l : List It} {k : ByteArray} (e : l = lo k l ++ hi k l) : l.take (lo k l).length = lo k l ∧ l.drop (lo k l).length = hi k l := by
  generalize lo k l = A at *
  generalize hi k l = B at *
  subst e
  exact ⟨List.take_left, List.drop_left⟩
theorem cut_key {l : List It} {k u : ByteArray} (e : l = lo k l ++ (k, u) :: hi k l) : l.take (lo k l).length = lo k l ∧ l.drop ((lo k l).length + 1) = hi k l ∧ l[(lo k l).length]? = some (k, u) ∧ (lo k l).length < l.length := by
  generalize lo k l = A at *
  generalize hi k l = B at *
  subst e
  refine ⟨List.take_left, ?_, ?_, ?_⟩
  · rw [show A ++ (k, u) :: B = (A ++ [(k, u)]) ++ B by simp]
    exact List.drop_left' (by simp)
  · rw [List.getElem?_append_right (Nat.le_refl _)]
    simp
  · simp
set_option maxRecDepth 100000 in
set_option maxHeartbeats 2000000 in
theorem rput_ {w : World} {B : Nat} {v : Value} {l : List It} (hr : RowR w B v l) (hs : Srt l) (hl : l.length ≤ 1000) (k x : ByteArray) :
    Calls Try.prog 36 #[v, .string k, .string x] w (RefTo w (ins k x l) (get k l)) := by
  have HA := at_ hr hs hl k
  obtain ⟨a, c, e0, _⟩ := row_shape hr
  subst e0
  have hcap := hr.cap.2
  have hml : (lo k l).length ≤ l.length := List.length_filter_le _ _
  rcases hs.about k with ⟨e, hg⟩ | ⟨u, e, hg⟩
  · rw [hg] at HA ⊢
    obtain ⟨t1, t2⟩ := cut_new e
    have HA' : Hid (Calls Try.prog 47 #[.slice a l.length c, .string k] w fun e w1 => e = .returned (.tuple #[.int .i64 (lo k l).length, .bool false]) ∧ Hid (Below w.heap.size w w1) ∧ Chain w1 a c (lo k l).length (k, x) (lo k l) (fun a2 m2 c2 V2 => ∃ a3 m3 c3 V3, (Builtin.append_ #[39, 39] 39 #[.slice a2 m2 c2, .slice (subA a c (lo k l).length) (l.length - (lo k l).length) (c - (lo k l).length)]).run Try.prog V2 = .ok (.slice a3 m3 c3) V3 ∧ Hid (RefTo w (ins k x l) none (.returned (.tuple #[.slice a3 m3 c3, .string ⟨#[]⟩, .bool false])) V3))) := by
      refine HA.mono fun e w1 ⟨e1, hb⟩ => ⟨e1, hb, ?_⟩
      have hr1 : RowR w1 B (.slice a l.length c) l := row_on hr hb
      have := put_chain hr1 hl hml (k, x) (Z := fun a2 m2 c2 V2 => ∃ a3 m3 c3 V3, (Builtin.append_ #[39, 39] 39 #[.slice a2 m2 c2, .slice (subA a c (lo k l).length) (l.length - (lo k l).length) (c - (lo k l).length)]).run Try.prog V2 = .ok (.slice a3 m3 c3) V3 ∧ Hid (RefTo w (ins k x l) none (.returned (.tuple #[.slice a3 m3 c3, .string ⟨#[]⟩, .bool false])) V3)) (fun a2 m2 c2 V2 k1 k2 => by
        obtain ⟨a3, m3, c3, V3, j1, j2, j3⟩ := put_end hr1 k2 k1 hl (by rw [List.length_append, List.length_take]; simp; omega) hml
        refine ⟨a3, m3, c3, V3, j1, a3, m3, c3, rfl, ?_, below_step hb j3⟩
        rw [t1, t2, List.append_assoc, List.singleton_append] at j2
        exact row_base j2 (Nat.zero_le _))
      rw [t1] at this
      exact this
    have HSl : Hid (∀ (V : World) (act : Act) (o : Oper) (y z : Operand), o.op = .slice 39 y (some z) none none → act.eval y = .slice a l.length c → act.eval z = .int .i64 (lo k l).length → (execOp act.eval o).run Try.prog V = .ok (.value (.slice (subA a c (lo k l).length) (l.length - (lo k l).length) (c - (lo k l).length))) V) := fun V act o y z h1 h2 h3 => exec_lo h1 h2 h3 hml
    have HSh : Hid (∀ (V : World) (act : Act) (o : Oper) (y z : Operand), o.op = .slice 39 y none (some z) none → act.eval y = .slice a l.length c → act.eval z = .int .i64 (lo k l).length → (execOp act.eval o).run Try.prog V = .ok (.value (.slice a (lo k l).length c)) V) := fun V act o y z h1 h2 h3 => exec_hi h1 h2 h3 (by omega)
    clear HA hr hs e hg t1 t2
    generalize subA a c (lo k l).length = a4 at *
    generalize l.length - (lo k l).length = n4 at *
    generalize c - (lo k l).length = c4 at *
    generalize lo k l = A at *
    generalize A.length = m at *
    generalize ins k x l = l' at *
    generalize l.length = L at *
    go_enter Try.func36, Try.ntmps36
    go_wp2_with (first
      | (go_at_call 47; refine HA'.out.mono ?_; rintro e w1 ⟨rfl, HB, a1, m1, c1, V1, U, a2, m2, c2, V2, hap1, HRb, hap2, HR2, a3, m3, c3, V3, hap3, HZ⟩)
      | (refine wpList_exec rfl (HSh.out _ _ _ _ _ rfl rfl rfl) ?_; clear HSh)
      | (refine wpList_exec rfl (exec_append rfl rfl rfl hap1) ?_; clear hap1)
      | (refine wpList_exec rfl (HRb.out _ _ _ rfl rfl) ?_; clear HRb)
      | (refine wpList_exec rfl (exec_append rfl rfl rfl hap2) ?_; clear hap2)
      | (refine wpList_exec rfl (HSl.out _ _ _ _ _ rfl rfl rfl) ?_; clear HSl)
      | (refine wpList_exec rfl (exec_append rfl rfl rfl hap3) ?_; clear hap3)
      | fail)
    go_ret3
    exact HZ.out
  · rw [hg] at HA ⊢
    obtain ⟨t1, t2, t3, t4⟩ := cut_key e
    obtain ⟨g, e1, hgl, _, d2⟩ : ∃ g, a = some ⟨g, 0, none⟩ ∧ g < w.heap.size ∧ w.cell? ⟨g, (lo k l).length * 2, none⟩ = some (.string k) ∧ w.cell? ⟨g, (lo k l).length * 2 + 1, none⟩ = some (.string u) := by
      obtain ⟨a', c', e1, _, hat⟩ := hr.items
      simp only [Value.slice.injEq] at e1
      obtain ⟨rfl, _, rfl⟩ := e1
      exact hat _ _ t3
    subst e1
    obtain ⟨j, hj⟩ : ∃ j, j = (lo k l).length + 1 := ⟨_, rfl⟩
    have HA' : Hid (Calls Try.prog 47 #[.slice (some ⟨g, 0, none⟩) l.length c, .string k] w fun e w1 => e = .returned (.tuple #[.int .i64 (lo k l).length, .bool true]) ∧ Hid (Below w.heap.size w w1) ∧ Chain w1 (some ⟨g, 0, none⟩) c (lo k l).length (k, x) (lo k l) (fun a2 m2 c2 V2 => V2.drew.cell? ⟨g, (lo k l).length * 2 + 1, none⟩ = some (.string u) ∧ ∃ a3 m3 c3 V3, (Builtin.append_ #[39, 39] 39 #[.slice a2 m2 c2, .slice (subA (some ⟨g, 0, none⟩) c j) (l.length - j) (c - j)]).run Try.prog V2.drew = .ok (.slice a3 m3 c3) V3 ∧ V3.cell? ⟨g, (lo k l).length * 2 + 1, none⟩ = some (.string u) ∧ Hid (RefTo w (ins k x l) (some u) (.returned (.tuple #[.slice a3 m3 c3, .string u, .bool true])) V3))) := by
      refine HA.mono fun e w1 ⟨e1, hb⟩ => ⟨e1, hb, ?_⟩
      have hr1 : RowR w1 B (.slice (some ⟨g, 0, none⟩) l.length c) l := row_on hr hb
      have := put_chain hr1 hl hml (k, x) (Z := fun a2 m2 c2 V2 => V2.drew.cell? ⟨g, (lo k l).length * 2 + 1, none⟩ = some (.string u) ∧ ∃ a3 m3 c3 V3, (Builtin.append_ #[39, 39] 39 #[.slice a2 m2 c2, .slice (subA (some ⟨g, 0, none⟩) c j) (l.length - j) (c - j)]).run Try.prog V2.drew = .ok (.slice a3 m3 c3) V3 ∧ V3.cell? ⟨g, (lo k l).length * 2 + 1, none⟩ = some (.string u) ∧ Hid (RefTo w (ins k x l) (some u) (.returned (.tuple #[.slice a3 m3 c3, .string u, .bool true])) V3)) (fun a2 m2 c2 V2 k1 k2 => by
        have k2d := below_step k2 (below_drew V2)
        obtain ⟨a3, m3, c3, V3, j1, j2, j3⟩ := put_end hr1 k2d (row_on k1 (below_drew V2)) hl (by rw [List.length_append, List.length_take]; simp; omega) (j := j) (by omega)
        refine ⟨((below_step hb k2d).cell (p := ⟨g, (lo k l).length * 2 + 1, none⟩) hgl).trans d2, a3, m3, c3, V3, j1, ((below_step hb j3).cell (p := ⟨g, (lo k l).length * 2 + 1, none⟩) hgl).trans d2, a3, m3, c3, rfl, ?_, below_step hb j3⟩
        rw [t1, hj, t2, List.append_assoc, List.singleton_append] at j2
        exact row_base j2 (Nat.zero_le _))
      rw [t1] at this
      exact this
    have hjL : j ≤ l.length := by omega
    have HSl : Hid (∀ (V : World) (act : Act) (o : Oper) (y z : Operand), o.op = .slice 39 y (some z) none none → act.eval y = .slice (some ⟨g, 0, none⟩) l.length c → act.eval z = .int .i64 j → (execOp act.eval o).run Try.prog V = .ok (.value (.slice (subA (some ⟨g, 0, none⟩) c j) (l.length - j) (c - j))) V) := fun V act o y z h1 h2 h3 => exec_lo h1 h2 h3 hjL
    have HSh : Hid (∀ (V : World) (act : Act) (o : Oper) (y z : Operand), o.op = .slice 39 y none (some z) none → act.eval y = .slice (some ⟨g, 0, none⟩) l.length c → act.eval z = .int .i64 (lo k l).length → (execOp act.eval o).run Try.prog V = .ok (.value (.slice (some ⟨g, 0, none⟩) (lo k l).length c)) V) := fun V act o y z h1 h2 h3 => exec_hi h1 h2 h3 (by omega)
    clear HA hr hs e hg t1 t2 t3 d2
    generalize subA (some ⟨g, 0, none⟩) c j = a4 at *
    generalize l.length - j = n4 at *
    generalize c - j = c4 at *
    generalize lo k l = A at *
    generalize A.length = m at *
    generalize ins k x l = l' at *
    generalize l.length = L at *
    have hmj : (m : Int) + 1 = (j : Int) := by omega
    have hwj := wraps_i64 (j : Int) (by omega) (by omega)
    clear hj
    go_enter Try.func36, Try.ntmps36
    go_wp2_with (first
      | (go_at_call 47; refine HA'.out.mono ?_; rintro e w1 ⟨rfl, HB, a1, m1, c1, V1, U, a2, m2, c2, V2, hap1, HRb, hap2, HR2, f1, a3, m3, c3, V3, hap3, f2, HZ⟩)
      | (refine wpList_exec rfl (HSh.out _ _ _ _ _ rfl rfl rfl) ?_; clear HSh)
      | (refine wpList_exec rfl (exec_append rfl rfl rfl hap1) ?_; clear hap1)
      | (refine wpList_exec rfl (HRb.out _ _ _ rfl rfl) ?_; clear HRb)
      | (refine wpList_exec rfl (exec_append rfl rfl rfl hap2) ?_; clear hap2)
      | fail)
    refine wp_region_noPanic ?_
    refine region_ph (A := (fun V => V.cell? ⟨g, m * 2 + 1, none⟩ = some (.string u))) (e1 := 9999) (B := fun _ => True) (e2 := 9999) (C := fun _ => True) (by kernel_rfl) ⟨(f1), fun _ => trivial, fun _ => trivial⟩ (fun hSt => ?_)
    refine take_ph 0 (.slice a2 m2 c2) [] rfl (by kernel_rfl) (fun _ _ _ h => h) (Or.inl ⟨by rfl, ?_⟩) hSt (fun hSn => ?_)
    · intro V _; go_simp
    clear hSt; rename Ph _ _ _ _ _ _ _ => hSt
    simp only [Act.put, List.setIfInBounds_toArray, List.set_cons_zero, List.set_cons_succ]
    refine take_ph 1 (.slice (some ⟨g, 0, none⟩) L c) [] rfl (by kernel_rfl) (fun _ _ _ h => h) (Or.inl ⟨by rfl, ?_⟩) hSt (fun hSn => ?_)
    · intro V _; go_simp
    clear hSt; rename Ph _ _ _ _ _ _ _ => hSt
    simp only [Act.put, List.setIfInBounds_toArray, List.set_cons_zero, List.set_cons_succ]
    refine take_ph 2 (.int .i64 m) [] rfl (by kernel_rfl) (fun _ _ _ h => h) (Or.inl ⟨by rfl, ?_⟩) hSt (fun hSn => ?_)
    · intro V _; go_simp
    clear hSt; rename Ph _ _ _ _ _ _ _ => hSt
    simp only [Act.put, List.setIfInBounds_toArray, List.set_cons_zero, List.set_cons_succ]
    refine take_ph 3 (.int .i64 j) [] rfl (by kernel_rfl) (fun _ _ _ h => h) (Or.inl ⟨by rfl, ?_⟩) hSt (fun hSn => ?_)
    · intro V _; go_simp
    clear hSt; rename Ph _ _ _ _ _ _ _ => hSt
    simp only [Act.put, List.setIfInBounds_toArray, List.set_cons_zero, List.set_cons_succ]
    refine take_ph 4 (.slice a4 n4 c4) [] rfl (by kernel_rfl) (fun _ _ _ h => h) (Or.inl ⟨by rfl, ?_⟩) hSt (fun hSn => ?_)
    · rintro V ⟨hh, _, _⟩; exact HSl.out _ _ _ _ _ rfl rfl rfl
    clear hSt; rename Ph _ _ _ _ _ _ _ => hSt
    simp only [Act.put, List.setIfInBounds_toArray, List.set_cons_zero, List.set_cons_succ]
    refine take_ph 6 (.slice (some ⟨g, 0, none⟩) L c) [] rfl (by kernel_rfl) (fun _ _ _ h => h) (Or.inl ⟨by rfl, ?_⟩) hSt (fun hSn => ?_)
    · intro V _; go_simp
    clear hSt; rename Ph _ _ _ _ _ _ _ => hSt
    simp only [Act.put, List.setIfInBounds_toArray, List.set_cons_zero, List.set_cons_succ]
    refine take_ph 7 (.int .i64 m) [] rfl (by kernel_rfl) (fun _ _ _ h => h) (Or.inl ⟨by rfl, ?_⟩) hSt (fun hSn => ?_)
    · intro V _; go_simp
    clear hSt; rename Ph _ _ _ _ _ _ _ => hSt
    simp only [Act.put, List.setIfInBounds_toArray, List.set_cons_zero, List.set_cons_succ]
    refine take_ph 8 (.pointer (some ⟨g, m * 2, none⟩)) [] rfl (by kernel_rfl) (fun _ _ _ h => h) (Or.inl ⟨by rfl, ?_⟩) hSt (fun hSn => ?_)
    · intro V _; go_simp
    clear hSt; rename Ph _ _ _ _ _ _ _ => hSt
    simp only [Act.put, List.setIfInBounds_toArray, List.set_cons_zero, List.set_cons_succ]
    refine take_ph 9 (.pointer (some ⟨g, m * 2 + 1, none⟩)) [] rfl (by kernel_rfl) (fun _ _ _ h => h) (Or.inl ⟨by rfl, ?_⟩) hSt (fun hSn => ?_)
    · intro V _; go_simp
    clear hSt; rename Ph _ _ _ _ _ _ _ => hSt
    simp only [Act.put, List.setIfInBounds_toArray, List.set_cons_zero, List.set_cons_succ]
    refine take_ph 10 (.string u) [] rfl (by kernel_rfl) (fun _ _ _ h => h) (Or.inl ⟨by rfl, ?_⟩) hSt (fun hSn => ?_)
    · rintro V ⟨hh, _, _⟩; have e0 := hh; clear hh; go_simp
    clear hSt; rename Ph _ _ _ _ _ _ _ => hSt
    simp only [Act.put, List.setIfInBounds_toArray, List.set_cons_zero, List.set_cons_succ]
    refine ready_ph 5 rfl (by kernel_rfl) rfl (.inl (exec_append rfl rfl rfl hap3)) (⟨f2, fun _ => trivial, fun _ => trivial⟩) (fun hSn => ?_)
    clear hSt; rename Ph _ _ _ _ _ _ _ => hSt
    simp only [Act.put, List.setIfInBounds_toArray, List.set_cons_zero, List.set_cons_succ]
    refine take_ph 11 (.slice a3 m3 c3) [] rfl (by kernel_rfl) (fun _ _ _ h => h) (Or.inl ⟨by rfl, ?_⟩) hSt (fun hSn => ?_)
    · intro V _; go_simp
    clear hSt; rename Ph _ _ _ _ _ _ _ => hSt
    simp only [Act.put, List.setIfInBounds_toArray, List.set_cons_zero, List.set_cons_succ]
    refine take_ph 12 (.string u) [] rfl (by kernel_rfl) (fun _ _ _ h => h) (Or.inl ⟨by rfl, ?_⟩) hSt (fun hSn => ?_)
    · intro V _; go_simp
    clear hSt; rename Ph _ _ _ _ _ _ _ => hSt
    simp only [Act.put, List.setIfInBounds_toArray, List.set_cons_zero, List.set_cons_succ]
    refine take_ph 13 (.bool true) [] rfl (by kernel_rfl) (fun _ _ _ h => h) (Or.inl ⟨by rfl, ?_⟩) hSt (fun hSn => ?_)
    · intro V _; go_simp
    clear hSt; rename Ph _ _ _ _ _ _ _ => hSt
    simp only [Act.put, List.setIfInBounds_toArray, List.set_cons_zero, List.set_cons_succ]
    refine done_ph (by kernel_rfl) ?_ _
    clear hSt
    refine NoPanic.normal ?_
    go_wp2_with fail
    go_ret3
    exact HZ.out
end Go.Proofs.Yteeojhmdefhlmaa
