/- The law's asks; What TreeRuns does to the tree and to the document's list, and what stays beside them; The end of TreeRuns. -/
import Derived.Test.YtlpkpookheafpaaJRnA
import Derived.Test.YtlpkpookheafpaaJRnB
import Derived.Test.YtlpkpookheafpaaNearWalk
import Derived.Test.YtlpkpookheafpaaVTDrop
import Derived.Test.YtlpkpookheafpaaSmMem
import Derived.Test.YtlpkpookheafpaaVActs
namespace Go.Proofs.Ytlpkpookheafpaa
open Go.RowKit Go.Sort

def o1 (o : Option It) : ByteArray := match o with | none => ⟨#[]⟩ | some x => x.1
def o2 (o : Option It) : ByteArray := match o with | none => ⟨#[]⟩ | some x => x.2
theorem tell_o (o : Option It) : tellV o = .tuple #[.string (o1 o), .string (o2 o), .bool (isB o)] := by cases o <;> rfl
theorem pair_o (o : Option It) : pairV o = .agg #[.string (o1 o), .string (o2 o)] := by cases o <;> rfl
/-- The program's tree beside the document's list. -/
structure St2 (W w0 V : World) (p : Nat) (v : Value) (l : List It) : Prop where
  on' : On W V p l
  row : RowR V 0 v l
  below : Below w0.heap.size w0 V
theorem St2.on {W w0 V V' : World} {p : Nat} {v : Value} {l : List It} (h : St2 W w0 V p v l) (hb : Below V.heap.size V V') : St2 W w0 V' p v l := ⟨h.on'.on hb, row_on h.row hb, below_step h.below hb⟩
/-- A pair in a block. -/
def Blk (V : World) (g : Nat) (x1 x2 : ByteArray) : Prop := V.heap[g]? = some (.cells #[.string x1, .string x2] 39 (0, 0))
theorem Blk.on {V V' : World} {g : Nat} {x1 x2 : ByteArray} (h : Blk V g x1 x2) (hb : Below V.heap.size V V') : Blk V' g x1 x2 := (hb.block g (blk_lt h)).trans h
theorem blk_new (V : World) (x1 x2 : ByteArray) : ∃ V3, (Instr.storeAt 39 (.pointer (some ⟨V.heap.size, 0, none⟩)) (.agg #[.string x1, .string x2])).run Try.prog (V.alloc (.cells #[.string ⟨#[]⟩, .string ⟨#[]⟩] 39)) = .ok () V3 ∧ Blk V3 V.heap.size x1 x2 ∧ Below V.heap.size V V3 := by
  obtain ⟨V2, h1, h2, h3, _⟩ := pair_cell (w := V) (x1, x2) (new_blk V (.cells #[.string ⟨#[]⟩, .string ⟨#[]⟩] 39)) (Nat.le_refl _) (below_alloc V _)
  exact ⟨V2, h1, h2, h3⟩
section
variable {W w0 V : World} {p : Nat} {v : Value} {l : List It}
theorem St2.gt (h : St2 W w0 V p v l) (k : ByteArray) : Calls Try.prog 22 #[.pointer (some ⟨p, 0, none⟩), .string k] V fun e V' => e = .returned (.tuple #[.string ((get k l).getD ⟨#[]⟩), .bool (get k l).isSome]) ∧ Hid (St2 W w0 V' p v l) := by
  obtain ⟨M, F, h1, h2⟩ := h.on'.ex
  exact (tget_ h1.st h2 k).mono fun e V' ⟨e1, hb⟩ => ⟨e1, h.on hb⟩
theorem St2.rget (h : St2 W w0 V p v l) (hl : l.length ≤ 1000) (k : ByteArray) : Calls Try.prog 32 #[v, .string k] V fun e V' => e = .returned (.tuple #[.string ((get k l).getD ⟨#[]⟩), .bool (get k l).isSome]) ∧ Hid (St2 W w0 V' p v l) :=
  (rget_ h.row h.on'.srt hl k).mono fun _ _ ⟨e1, hb⟩ => ⟨e1, h.on hb⟩
theorem St2.from (h : St2 W w0 V p v l) (k : ByteArray) (b : Bool) : Calls Try.prog 23 #[.pointer (some ⟨p, 0, none⟩), .string k, .bool b] V fun e V' => e = .returned (.tuple #[.string (o1 (l.find? (frP k b))), .string (o2 (l.find? (frP k b))), .bool (isB (l.find? (frP k b)))]) ∧ Hid (St2 W w0 V' p v l) := by
  obtain ⟨M, F, h1, h2⟩ := h.on'.ex
  refine (tfrom_ h1.st h2 k b).mono fun e V' ⟨e1, hb⟩ => ⟨?_, h.on hb⟩
  rw [tell_o] at e1
  exact e1
theorem St2.to (h : St2 W w0 V p v l) (k : ByteArray) (b : Bool) : Calls Try.prog 24 #[.pointer (some ⟨p, 0, none⟩), .string k, .bool b] V fun e V' => e = .returned (.tuple #[.string (o1 (lastL (toP k b) l)), .string (o2 (lastL (toP k b) l)), .bool (isB (lastL (toP k b) l))]) ∧ Hid (∀ g x1 x2, Blk V g x1 x2 → St2 W w0 V' p v l ∧ Blk V' g x1 x2) := by
  obtain ⟨M, F, h1, h2⟩ := h.on'.ex
  refine (tto_ h1.st h2 k b).mono fun e V' ⟨e1, hb⟩ => ⟨?_, fun g x1 x2 hk => ⟨h.on hb, hk.on hb⟩⟩
  rw [tell_o] at e1
  exact e1
theorem St2.rfrom (h : St2 W w0 V p v l) (hl : l.length ≤ 1000) (k : ByteArray) (b : Bool) : Calls Try.prog 33 #[v, .string k, .bool b] V fun e V2 => e = .returned (.tuple #[.agg #[.string (o1 (l.find? (frP k b))), .string (o2 (l.find? (frP k b)))], .bool (isB (l.find? (frP k b)))]) ∧
    ∃ V3, (Instr.storeAt 39 (.pointer (some ⟨V2.heap.size, 0, none⟩)) (.agg #[.string (o1 (l.find? (frP k b))), .string (o2 (l.find? (frP k b)))])).run Try.prog (V2.alloc (.cells #[.string ⟨#[]⟩, .string ⟨#[]⟩] 39)) = .ok () V3 ∧ Hid (St2 W w0 V3 p v l ∧ Blk V3 V2.heap.size (o1 (l.find? (frP k b))) (o2 (l.find? (frP k b)))) := by
  refine (rfrom_ h.row hl k b).mono fun e V2 ⟨e1, hb⟩ => ?_
  rw [pair_o] at e1
  obtain ⟨V3, h1, h2, h3⟩ := blk_new V2 (o1 (l.find? (frP k b))) (o2 (l.find? (frP k b)))
  exact ⟨e1, V3, h1, (h.on hb).on h3, h2⟩
theorem St2.rto (h : St2 W w0 V p v l) (hl : l.length ≤ 1000) (k : ByteArray) (b : Bool) {g : Nat} {x1 x2 : ByteArray} (hk : Blk V g x1 x2) : Calls Try.prog 34 #[v, .string k, .bool b] V fun e V2 => e = .returned (.tuple #[.agg #[.string (o1 (lastL (toP k b) l)), .string (o2 (lastL (toP k b) l))], .bool (isB (lastL (toP k b) l))]) ∧
    ∃ V3, (Instr.storeAt 39 (.pointer (some ⟨V2.heap.size, 0, none⟩)) (.agg #[.string (o1 (lastL (toP k b) l)), .string (o2 (lastL (toP k b) l))])).run Try.prog (V2.alloc (.cells #[.string ⟨#[]⟩, .string ⟨#[]⟩] 39)) = .ok () V3 ∧ V3.cell? ⟨g, 0, none⟩ = some (.string x1) ∧ V3.cell? ⟨g, 1, none⟩ = some (.string x2) ∧ Hid (St2 W w0 V3 p v l ∧ Blk V3 V2.heap.size (o1 (lastL (toP k b) l)) (o2 (lastL (toP k b) l))) := by
  refine (rto_ h.row hl k b).mono fun e V2 ⟨e1, hb⟩ => ?_
  rw [pair_o] at e1
  obtain ⟨V3, h1, h2, h3⟩ := blk_new V2 (o1 (lastL (toP k b) l)) (o2 (lastL (toP k b) l))
  have hk3 := (hk.on hb).on h3
  exact ⟨e1, V3, h1, cell_of hk3 rfl, cell_of hk3 rfl, (h.on hb).on h3, h2⟩
theorem St2.pair (h : St2 W w0 V p v l) (x1 x2 : ByteArray) (b : Bool) {g : Nat} {y1 y2 : ByteArray} (hk : Blk V g y1 y2) : Calls Try.prog 19 #[.string x1, .string x2, .bool b, .agg #[.string x1, .string x2], .bool b] V fun e V' => e = .returned (.bool true) ∧ V'.cell? ⟨g, 0, none⟩ = some (.string y1) ∧ V'.cell? ⟨g, 1, none⟩ = some (.string y2) ∧ Hid (St2 W w0 V' p v l) :=
  (pair_ V x1 x2 b).mono fun _ _ ⟨e1, hb⟩ => ⟨e1, cell_of (hk.on hb) rfl, cell_of (hk.on hb) rfl, h.on hb⟩
theorem St2.pair2 (h : St2 W w0 V p v l) (x1 x2 : ByteArray) (b : Bool) : Calls Try.prog 19 #[.string x1, .string x2, .bool b, .agg #[.string x1, .string x2], .bool b] V fun e V' => e = .returned (.bool true) ∧ Hid (St2 W w0 V' p v l) :=
  (pair_ V x1 x2 b).mono fun _ _ ⟨e1, hb⟩ => ⟨e1, h.on hb⟩
end
set_option maxRecDepth 100000 in
set_option maxHeartbeats 2000000 in
theorem asks_ {W w0 : World} {p : Nat} {v : Value} {l : List It} (h : St2 W w0 w0 p v l) (hl : l.length ≤ 1000) (k : ByteArray) :
    Calls Try.prog 13 #[.pointer (some ⟨p, 0, none⟩), v, .string k] w0 fun e w' => e = .returned (.bool true) ∧ Hid (St2 W w0 w' p v l) := by
  have H0 := Lib.hid h
  obtain ⟨av, cv, ev, _⟩ := row_shape h.row
  have HG : Hid (∀ V, St2 W w0 V p v l → Calls Try.prog 22 #[.pointer (some ⟨p, 0, none⟩), .string k] V fun e V' => e = .returned (.tuple #[.string ((get k l).getD ⟨#[]⟩), .bool (get k l).isSome]) ∧ Hid (St2 W w0 V' p v l)) := fun V h => h.gt k
  have HRG : Hid (∀ V, St2 W w0 V p v l → Calls Try.prog 32 #[v, .string k] V fun e V' => e = .returned (.tuple #[.string ((get k l).getD ⟨#[]⟩), .bool (get k l).isSome]) ∧ Hid (St2 W w0 V' p v l)) := fun V h => h.rget hl k
  have HRound : Hid (∀ b : Bool, ∃ t1 t2 t3 u1 u2 u3,
    (∀ V, St2 W w0 V p v l → Calls Try.prog 23 #[.pointer (some ⟨p, 0, none⟩), .string k, .bool b] V fun e V' => e = .returned (.tuple #[.string t1, .string t2, .bool t3]) ∧ Hid (St2 W w0 V' p v l)) ∧
    (∀ V, St2 W w0 V p v l → Calls Try.prog 33 #[v, .string k, .bool b] V fun e V2 => e = .returned (.tuple #[.agg #[.string t1, .string t2], .bool t3]) ∧ ∃ V3, (Instr.storeAt 39 (.pointer (some ⟨V2.heap.size, 0, none⟩)) (.agg #[.string t1, .string t2])).run Try.prog (V2.alloc (.cells #[.string ⟨#[]⟩, .string ⟨#[]⟩] 39)) = .ok () V3 ∧ Hid (St2 W w0 V3 p v l ∧ Blk V3 V2.heap.size t1 t2)) ∧
    (∀ V, St2 W w0 V p v l → Calls Try.prog 24 #[.pointer (some ⟨p, 0, none⟩), .string k, .bool b] V fun e V' => e = .returned (.tuple #[.string u1, .string u2, .bool u3]) ∧ Hid (∀ g x1 x2, Blk V g x1 x2 → St2 W w0 V' p v l ∧ Blk V' g x1 x2)) ∧
    (∀ V g x1 x2, St2 W w0 V p v l ∧ Blk V g x1 x2 → Calls Try.prog 34 #[v, .string k, .bool b] V fun e V2 => e = .returned (.tuple #[.agg #[.string u1, .string u2], .bool u3]) ∧ ∃ V3, (Instr.storeAt 39 (.pointer (some ⟨V2.heap.size, 0, none⟩)) (.agg #[.string u1, .string u2])).run Try.prog (V2.alloc (.cells #[.string ⟨#[]⟩, .string ⟨#[]⟩] 39)) = .ok () V3 ∧ V3.cell? ⟨g, 0, none⟩ = some (.string x1) ∧ V3.cell? ⟨g, 1, none⟩ = some (.string x2) ∧ Hid (St2 W w0 V3 p v l ∧ Blk V3 V2.heap.size u1 u2))) := fun b =>
    ⟨_, _, _, _, _, _, fun V h => h.from k b, fun V h => h.rfrom hl k b, fun V h => h.to k b, fun V g x1 x2 h => h.1.rto hl k b h.2⟩
  have HP1 : Hid (∀ V x1 x2 b g y1 y2, St2 W w0 V p v l ∧ Blk V g y1 y2 → Calls Try.prog 19 #[.string x1, .string x2, .bool b, .agg #[.string x1, .string x2], .bool b] V fun e V' => e = .returned (.bool true) ∧ V'.cell? ⟨g, 0, none⟩ = some (.string y1) ∧ V'.cell? ⟨g, 1, none⟩ = some (.string y2) ∧ Hid (St2 W w0 V' p v l)) := fun V x1 x2 b g y1 y2 h => h.1.pair x1 x2 b h.2
  have HP2 : Hid (∀ V x1 x2 b, St2 W w0 V p v l → Calls Try.prog 19 #[.string x1, .string x2, .bool b, .agg #[.string x1, .string x2], .bool b] V fun e V' => e = .returned (.bool true) ∧ Hid (St2 W w0 V' p v l)) := fun V x1 x2 b h => h.pair2 x1 x2 b
  subst ev
  clear h
  generalize (get k l).getD ⟨#[]⟩ = gv at *
  generalize (get k l).isSome = gb at *
  generalize l.length = L at *
  go_enter Try.func13, Try.ntmps13
  go_wp2_with (first
    | (go_at_call 22; refine (HG.out _ H0.out).mono ?_; rintro e V1 ⟨rfl, H1⟩; clear HG)
    | (go_at_call 32; refine (HRG.out _ H1.out).mono ?_; rintro e V2 ⟨rfl, H2⟩; clear HRG)
    | fail)
  clear H0 H1
  go_loopg [11] 2 (fun kx s11 wr => ∃ i : Nat, s11 = .int .i64 i ∧ i ≤ 2 ∧ 2 - i ≤ kx ∧ Hid (St2 W w0 wr p (.slice av L cv) l))
  case atStart => exact ⟨0, rfl, by omega, by omega, H2⟩
  case round =>
    clear H2
    obtain ⟨i, rfl, hi, hkx, HS⟩ := hrel
    by_cases hlt : i < 2
    · have hi01 : i = 0 ∨ i = 1 := by omega
      rcases hi01 with rfl | rfl
      · obtain ⟨t1, t2, t3, u1, u2, u3, hF, hRF, hT, hRT⟩ := HRound.out false
        have HF := Lib.hid hF
        have HRF := Lib.hid hRF
        have HT := Lib.hid hT
        have HRT := Lib.hid hRT
        clear hF hRF hT hRT HRound hlt hi
        go_wp2_with (first
          | (go_at_call 23; refine (HF.out _ HS.out).mono ?_; rintro e V1 ⟨rfl, H1⟩; clear HF HS)
          | (go_at_call 33; refine (HRF.out _ H1.out).mono ?_; rintro e V2 ⟨rfl, V3, hst1, H3⟩; clear HRF H1)
          | (refine wpList_store_at rfl _ _ _ rfl _ _ rfl rfl hst1 ?_; clear hst1)
          | (go_at_call 24; refine (HT.out _ H3.out.1).mono ?_; rintro e V4 ⟨rfl, h4⟩; have H4 := Lib.hid (h4.out _ _ _ H3.out.2); clear h4 HT H3)
          | (go_at_call 34; refine (HRT.out _ _ _ _ H4.out).mono ?_; rintro e V5 ⟨rfl, V6, hst2, d1, d2, H6⟩; clear HRT H4)
          | (refine wpList_store_at rfl _ _ _ rfl _ _ rfl rfl hst2 ?_; clear hst2)
          | (go_at_call 19; refine (HP1.out _ _ _ _ _ _ _ H6.out).mono ?_; rintro e V7 ⟨rfl, d3, d4, H7⟩; clear HP1 H6)
          | (go_at_call 19; refine (HP2.out _ _ _ _ H7.out).mono ?_; rintro e V8 ⟨rfl, H8⟩; clear HP2 H7)
          | fail)
        go_roundg 1
        case measure => omega
        case rel => exact ⟨1, rfl, by omega, by omega, H8⟩
      · obtain ⟨t1, t2, t3, u1, u2, u3, hF, hRF, hT, hRT⟩ := HRound.out true
        have HF := Lib.hid hF
        have HRF := Lib.hid hRF
        have HT := Lib.hid hT
        have HRT := Lib.hid hRT
        clear hF hRF hT hRT HRound hlt hi
        go_wp2_with (first
          | (go_at_call 23; refine (HF.out _ HS.out).mono ?_; rintro e V1 ⟨rfl, H1⟩; clear HF HS)
          | (go_at_call 33; refine (HRF.out _ H1.out).mono ?_; rintro e V2 ⟨rfl, V3, hst1, H3⟩; clear HRF H1)
          | (refine wpList_store_at rfl _ _ _ rfl _ _ rfl rfl hst1 ?_; clear hst1)
          | (go_at_call 24; refine (HT.out _ H3.out.1).mono ?_; rintro e V4 ⟨rfl, h4⟩; have H4 := Lib.hid (h4.out _ _ _ H3.out.2); clear h4 HT H3)
          | (go_at_call 34; refine (HRT.out _ _ _ _ H4.out).mono ?_; rintro e V5 ⟨rfl, V6, hst2, d1, d2, H6⟩; clear HRT H4)
          | (refine wpList_store_at rfl _ _ _ rfl _ _ rfl rfl hst2 ?_; clear hst2)
          | (go_at_call 19; refine (HP1.out _ _ _ _ _ _ _ H6.out).mono ?_; rintro e V7 ⟨rfl, d3, d4, H7⟩; clear HP1 H6)
          | (go_at_call 19; refine (HP2.out _ _ _ _ H7.out).mono ?_; rintro e V8 ⟨rfl, H8⟩; clear HP2 H7)
          | fail)
        go_roundg 0
        case measure => omega
        case rel => exact ⟨2, rfl, by omega, by omega, H8⟩
    · obtain rfl : i = 2 := by omega
      clear HRound HP1 HP2
      go_wp2_with fail
      go_ret
      exact ⟨rfl, HS⟩
end Go.Proofs.Ytlpkpookheafpaa

namespace Go.Proofs.Ytlpkpookheafpaa
open Go.RowKit Go.Sort

/-- Blocks of other kinds than a tree's stay. -/
def Alien (w w' : World) : Prop := ∀ (b : Nat) (c : Array Value) (t : TypeId), w.heap[b]? = some (.cells c t (0, 0)) → t ≠ 58 → t ≠ 61 → t ≠ 52 → t ≠ 54 → w'.heap[b]? = some (.cells c t (0, 0))
theorem Store.alien {w : World} {M : Nat → Option Nd} (h : Store w M) {b : Nat} {c : Array Value} {t : TypeId} (hb : w.heap[b]? = some (.cells c t (0, 0))) (h1 : t ≠ 58) (h2 : t ≠ 61) (h3 : t ≠ 52) : ¬ Own M b := by
  rintro ⟨q, n, hq, rfl | e | e⟩
  · exact kind_ne hb (h.blk _ _ hq) h1 rfl
  · obtain ⟨c2, k2⟩ := row_block (h.its q n hq) e
    exact kind_ne hb k2 h2 rfl
  · obtain ⟨c2, k2⟩ := row_block (h.ks q n hq) e
    exact kind_ne hb k2 h3 rfl
theorem KeptT.alien {M M' : Nat → Option Nd} {F F' : Nat → Prop} {p : Nat} {w w' : World} {l : List It} {G : Nat → Prop} (hk : KeptT M M' F F' p w w') (hs : Store w M) (ht : TreeAt w M p l G) : Alien w w' := fun b c t hb h1 h2 h3 h4 => by
  refine (hk.stays hb (hs.alien hb h1 h2 h3) fun e => ?_).1
  subst e
  rcases ht.root with ⟨_, _, e⟩ | ⟨_, _, _, _, e⟩
  · exact kind_ne hb e h4 rfl
  · exact kind_ne hb e h4 rfl
theorem RowR.alien {w w' : World} {B : Nat} {v : Value} {l : List It} (h : RowR w B v l) (ha : Alien w w') : RowR w' B v l := row_keep h fun g hg => by
  obtain ⟨cur, hc⟩ := row_block h hg
  rw [hc]
  exact ha g cur _ hc (by decide) (by decide) (by decide) (by decide)
/-- Something done, in a block of its own. -/
def ActB (V : World) (q : Nat) (z : Int) (k x : ByteArray) : Prop := V.heap[q]? = some (.cells #[.int .i64 z, .string k, .string x] 27 (0, 0))
theorem ActB.on {V V' : World} {q : Nat} {z : Int} {k x : ByteArray} (h : ActB V q z k x) (hb : Below V.heap.size V V') : ActB V' q z k x := (hb.block q (blk_lt h)).trans h
theorem ActB.alien {V V' : World} {q : Nat} {z : Int} {k x : ByteArray} (h : ActB V q z k x) (ha : Alien V V') : ActB V' q z k x := ha q _ _ h (by decide) (by decide) (by decide) (by decide)
theorem store_act {w : World} {g : Nat} {u0 u1 u2 v0 v1 v2 : Value} (h0 : v0.oneCell' = true) (h1 : v1.oneCell' = true) (h2 : v2.oneCell' = true) (h : w.heap[g]? = some (.cells #[u0, u1, u2] 27 (0, 0))) : (Instr.storeAt 27 (.pointer (some ⟨g, 0, none⟩)) (.agg #[v0, v1, v2])).run Try.prog w = .ok () (((w.setCell ⟨g, 0, none⟩ v0).setCell ⟨g, 1, none⟩ v1).setCell ⟨g, 2, none⟩ v2) := by
  have hs : (sizeOf 27).run Try.prog w = .ok 3 w := by kernel_rfl
  have k1 := heap_set (o := 0) v0 h
  have k2 := heap_set (o := 1) v1 k1
  have c0 : w.cell? ⟨g, 0, none⟩ = some u0 := cell_of h rfl
  have f0 : w.frozen? ⟨g, 0, none⟩ = false := frozen_of h
  have c1 : (w.setCell ⟨g, 0, none⟩ v0).cell? ⟨g, 1, none⟩ = some u1 := cell_of k1 rfl
  have f1 : (w.setCell ⟨g, 0, none⟩ v0).frozen? ⟨g, 1, none⟩ = false := frozen_of k1
  have c2 : ((w.setCell ⟨g, 0, none⟩ v0).setCell ⟨g, 1, none⟩ v1).cell? ⟨g, 2, none⟩ = some u2 := cell_of k2 rfl
  have f2 : ((w.setCell ⟨g, 0, none⟩ v0).setCell ⟨g, 1, none⟩ v1).frozen? ⟨g, 2, none⟩ = false := frozen_of k2
  simp only [Instr.storeAt, Instr.sureAddr, Sem.run_bind, Sem.run_pure, Result.andThen]
  simp [storeVar, hs, Value.cells, Result.andThen, storeCells, run_store _ _ _ _ _ h0, run_store _ _ _ _ _ h1, run_store _ _ _ _ _ h2, Addr.add_lit, c0, f0, c1, f1, c2, f2]
theorem act_new (V : World) (z : Int) (k x : ByteArray) : ∃ V3, (Instr.storeAt 27 (.pointer (some ⟨V.heap.size, 0, none⟩)) (.agg #[.int .i64 z, .string k, .string x])).run Try.prog (V.alloc (.cells #[.int .i64 0, .string ⟨#[]⟩, .string ⟨#[]⟩] 27)) = .ok () V3 ∧ ActB V3 V.heap.size z k x ∧ Below V.heap.size V V3 := by
  have hn := new_blk V (.cells #[.int .i64 0, .string ⟨#[]⟩, .string ⟨#[]⟩] 27)
  have hb := below_alloc V (.cells #[.int .i64 0, .string ⟨#[]⟩, .string ⟨#[]⟩] 27)
  refine ⟨_, store_act rfl rfl rfl hn, ?_, hb.os, hb.tape, hb.output, by rw [size_set, size_set, size_set]; exact hb.size, fun k hk => ?_⟩
  · unfold ActB
    rw [heap_set _ (heap_set _ (heap_set _ hn))]
    rfl
  · rw [heap_far _ (by omega), heap_far _ (by omega), heap_far _ (by omega)]
    exact hb.block k hk
/-- Where the law stands within a round. -/
structure St3 (W V : World) (p q : Nat) (v : Value) (l : List It) (z : Int) (k x : ByteArray) : Prop where
  st : St2 W W V p v l
  act : ActB V q z k x
theorem St3.on {W V V' : World} {p q : Nat} {v : Value} {l : List It} {z : Int} {k x : ByteArray} (h : St3 W V p q v l z k x) (hb : Below V.heap.size V V') : St3 W V' p q v l z k x := ⟨h.st.on hb, h.act.on hb⟩
/-- The tree is ahead of the list. -/
structure St4 (W V : World) (p q : Nat) (v : Value) (l l' : List It) (z : Int) (k x : ByteArray) : Prop where
  on' : On W V p l'
  row : RowR V 0 v l
  srt : Srt l
  act : ActB V q z k x
section
variable {W V : World} {p q : Nat} {v : Value} {l : List It} {z : Int} {k x : ByteArray}
theorem St3.put (h : St3 W V p q v l z k x) (hl : l.length ≤ 1000) : Calls Try.prog 8 #[.pointer (some ⟨p, 0, none⟩), .string k, .string x] V fun e V' => e = .returned (.tuple #[.string ((get k l).getD ⟨#[]⟩), .bool (get k l).isSome]) ∧ St4 W V' p q v l (ins k x l) z k x := by
  obtain ⟨M, F, h1, h2⟩ := h.st.on'.ex
  refine (tput_ h1.st h2 (by omega) k x).mono fun e V' ⟨e1, M', F', hk, ht⟩ => ?_
  have ha := hk.alien h1.st h2
  exact ⟨e1, ⟨⟨M', F', h1.kept h.st.on'.lo hk, ht⟩, h.st.on'.lo⟩, h.st.row.alien ha, h2.srt, h.act.alien ha⟩
theorem St3.drop (h : St3 W V p q v l z k x) (hl : l.length ≤ 1000) : Calls Try.prog 10 #[.pointer (some ⟨p, 0, none⟩), .string k] V fun e V' => e = .returned (.tuple #[.string ((get k l).getD ⟨#[]⟩), .bool (get k l).isSome]) ∧ St4 W V' p q v l (del k l) z k x := by
  obtain ⟨M, F, h1, h2⟩ := h.st.on'.ex
  refine (tdrop_ h1.st h2 (by omega) k).mono fun e V' ⟨e1, M', F', hk, ht⟩ => ?_
  have ha := hk.alien h1.st h2
  exact ⟨e1, ⟨⟨M', F', h1.kept h.st.on'.lo hk, ht⟩, h.st.on'.lo⟩, h.st.row.alien ha, h2.srt, h.act.alien ha⟩
theorem St4.rput (h : St4 W V p q v l (ins k x l) z k x) (hl : l.length ≤ 1000) : Calls Try.prog 9 #[v, .string k, .string x] V fun e V' => ∃ a c, e = .returned (.tuple #[.slice a (ins k x l).length c, .string ((get k l).getD ⟨#[]⟩), .bool (get k l).isSome]) ∧ St3 W V' p q (.slice a (ins k x l).length c) (ins k x l) z k x := by
  refine (rput_ h.row h.srt hl k x).mono fun e V' ⟨a, m, c, e1, hr, hb⟩ => ?_
  obtain ⟨rfl, _⟩ := hr.cap
  exact ⟨a, c, e1, ⟨h.on'.on hb, hr, below_step h.on'.below hb⟩, h.act.on hb⟩
theorem St4.rdrop (h : St4 W V p q v l (del k l) z k x) (hl : l.length ≤ 1000) : Calls Try.prog 11 #[v, .string k] V fun e V' => ∃ a c, e = .returned (.tuple #[.slice a (del k l).length c, .string ((get k l).getD ⟨#[]⟩), .bool (get k l).isSome]) ∧ St3 W V' p q (.slice a (del k l).length c) (del k l) z k x := by
  refine (rdrop_ h.row h.srt hl k).mono fun e V' ⟨a, m, c, e1, hr, hb⟩ => ?_
  obtain ⟨rfl, _⟩ := hr.cap
  exact ⟨a, c, e1, ⟨h.on'.on hb, hr, below_step h.on'.below hb⟩, h.act.on hb⟩
theorem St3.len (h : St3 W V p q v l z k x) : Calls Try.prog 12 #[.pointer (some ⟨p, 0, none⟩)] V fun e V' => e = .returned (.int .i64 l.length) ∧ V' = V := by
  obtain ⟨M, F, h1, h2⟩ := h.st.on'.ex
  exact len_ h2
theorem St3.asks (h : St3 W V p q v l z k x) (hl : l.length ≤ 1000) : Calls Try.prog 13 #[.pointer (some ⟨p, 0, none⟩), v, .string k] V fun e V' => e = .returned (.bool true) ∧ St2 W W V' p v l :=
  (asks_ ⟨h.st.on', h.st.row, Below.refl _ _⟩ hl k).mono fun _ _ ⟨e1, hb⟩ => ⟨e1, hb.out.on', hb.out.row, below_step h.st.below hb.out.below⟩
end
/-! ### The keys that the law lays behind one another -/
def RowK (w : World) (B : Nat) (v : Value) (l : List ByteArray) : Prop := w.ownsRow B 9 1 v l.length (cS l)
theorem RowK.snoc {w U : World} {B : Nat} {v : Value} {l : List ByteArray} {x : ByteArray} (hB : B ≤ U.heap.size) (h : RowK U B v l) (hl : l.length ≤ 100000) {b : Nat} (hb : U.heap[b]? = some (.cells #[.string x] 9 (0, 0))) (hbl : Below B w U) (ty : TypeId) :
    ∃ a m c V, (Builtin.append_ #[37, 37] ty #[v, .slice (some ⟨b, 0, none⟩) 1 1]).run Try.prog U = .ok (.slice a m c) V ∧ RowK V B (.slice a m c) (l ++ [x]) ∧ Below B w V := by
  obtain ⟨i0, hi0, hz0, hz1, hz2⟩ := info_parts infoS
  obtain ⟨v', w', hr, h2, h3, _⟩ := run_append_own_at (P := Try.prog) U B 37 ty 9 i0 _ 1 16 Try.underlying37 hi0 hz0 hz1 hz2 rfl (by decide) v l.length _ h ⟨b, 0, none⟩ 1 1 [.string x] rfl (fun j u hj => by
    match j, hj with
    | 0, hj => cases hj; rw [Addr.add_lit, Nat.add_zero]; exact cell_of hb rfl) (fun u hu => by rw [List.mem_singleton.1 hu]; rfl) (by unfold maxLen; omega) (by omega) hB
  have h2' : RowK w' B v' (l ++ [x]) := by
    unfold RowK
    rw [List.length_append, cS_append]
    exact h2
  obtain ⟨a, c, rfl, _⟩ := row_shape h2'
  exact ⟨a, _, c, w', hr, h2', hbl.trans (below_grown h hB h3)⟩
theorem RowK.tx {w : World} {B : Nat} {a : Option Addr} {n c : Nat} {l : List ByteArray} (h : RowK w B (.slice a n c) l) : n = l.length ∧ Tx w a l := by
  have := RowS.tx (show RowS w (.slice a n c) l from row_base h (Nat.zero_le _))
  exact ⟨this.1, this.2.1⟩
end Go.Proofs.Ytlpkpookheafpaa

namespace Go.Proofs.Ytlpkpookheafpaa
open Go.RowKit Go.Sort

structure Zt (W V : World) (p B : Nat) (v kv : Value) (l : List It) : Prop where
  st : St2 W W V p v l
  row : RowK V B kv (l.map (·.1))
theorem Zt.on {W V V' : World} {p B : Nat} {v kv : Value} {l : List It} (h : Zt W V p B v kv l) (hb : Below V.heap.size V V') : Zt W V' p B v kv l := ⟨h.st.on hb, row_on h.row hb⟩
section
variable {W V : World} {p B : Nat} {v kv : Value} {l : List It}
theorem Zt.first (h : Zt W V p B v kv l) : Calls Try.prog 14 #[.pointer (some ⟨p, 0, none⟩)] V fun e V' => e = .returned (.tuple #[.string (o1 l.head?), .string (o2 l.head?), .bool (isB l.head?)]) ∧ Hid (Zt W V' p B v kv l) := by
  obtain ⟨M, F, h1, h2⟩ := h.st.on'.ex
  refine (tfirst_ h1.st h2).mono fun e V' ⟨e1, hb⟩ => ⟨?_, h.on hb⟩
  rw [tell_o] at e1
  exact e1
theorem Zt.last (h : Zt W V p B v kv l) : Calls Try.prog 15 #[.pointer (some ⟨p, 0, none⟩)] V fun e V' => e = .returned (.tuple #[.string (o1 l.getLast?), .string (o2 l.getLast?), .bool (isB l.getLast?)]) ∧ Hid (Zt W V' p B v kv l) := by
  obtain ⟨M, F, h1, h2⟩ := h.st.on'.ex
  refine (tlast_ h1.st h2).mono fun e V' ⟨e1, hb⟩ => ⟨?_, h.on hb⟩
  rw [tell_o] at e1
  exact e1
theorem Zt.keys (h : Zt W V p B v kv l) (hl : l.length ≤ 1000) : Calls Try.prog 16 #[.pointer (some ⟨p, 0, none⟩)] V fun e V' => ∃ a2 c2, e = .returned (.slice a2 l.length c2) ∧ Hid (Zt W V' p B v kv l ∧ Tx V' a2 (l.map (·.1))) := by
  obtain ⟨M, F, h1, h2⟩ := h.st.on'.ex
  refine (tkeys_ h1.st h2 (by omega)).mono fun e V' ⟨a2, n2, c2, e1, hr, hb, _⟩ => ?_
  obtain ⟨e2, e3, _⟩ := hr.tx
  simp only [List.length_map] at e2
  subst e2
  exact ⟨a2, c2, e1, h.on hb, e3⟩
theorem Zt.texts {ak : Option Addr} {mk ck : Nat} (h : Zt W V p B v (.slice ak mk ck) l) (hl : l.length ≤ 1000) {a2 : Option Addr} {c2 : Nat} (ht : Tx V a2 (l.map (·.1))) : Calls Try.prog 18 #[.slice a2 l.length c2, .slice ak mk ck] V fun e V' => e = .returned (.bool true) ∧ Zt W V' p B v (.slice ak mk ck) l := by
  obtain ⟨e1, e2⟩ := h.row.tx
  have := texts_ (ca := c2) (cb := ck) ht e2 (by rw [List.length_map]; omega)
  rw [List.length_map] at this e1
  subst e1
  exact this.mono fun e V' ⟨e3, hb⟩ => ⟨e3, h.on hb⟩
end
theorem ends_of {l : List It} (h : l ≠ []) : ∃ (x y : It) (e : Nat), l.head? = some x ∧ l.getLast? = some y ∧ l.length = e + 1 ∧ l[0]? = some x ∧ l[e]? = some y := by
  obtain ⟨e, he⟩ : ∃ e, l.length = e + 1 := ⟨l.length - 1, by have := List.length_pos_iff.2 h; omega⟩
  obtain ⟨x, hx⟩ := getElem?_of_lt (l := l) (i := 0) (by omega)
  obtain ⟨y, hy⟩ := getElem?_of_lt (l := l) (i := e) (by omega)
  exact ⟨x, y, e, by rw [List.head?_eq_getElem?]; exact hx, by rw [List.getLast?_eq_getElem?, he]; exact hy, he, hx, hy⟩
theorem Zt.cells {W V : World} {p B n c : Nat} {a : Option Addr} {kv : Value} {l : List It} (h : Zt W V p B (.slice a n c) kv l) {i : Nat} {x : It} (hi : l[i]? = some x) : ∃ g, a = some ⟨g, 0, none⟩ ∧ V.cell? ⟨g, i * 2, none⟩ = some (.string x.1) ∧ V.cell? ⟨g, i * 2 + 1, none⟩ = some (.string x.2) := by
  obtain ⟨a', c', e, _, hat⟩ := h.st.row.items
  simp only [Value.slice.injEq] at e
  obtain ⟨rfl, _, rfl⟩ := e
  obtain ⟨g, e1, _, h3, h4⟩ := hat i x hi
  exact ⟨g, e1, h3, h4⟩
set_option maxRecDepth 100000 in
set_option maxHeartbeats 2000000 in
/-- The rows that the law lays, one key more. -/
theorem key_step {WI V : World} {B j : Nat} {v kv : Value} {l : List It} (hr : RowR WI B v l) (hb : Below WI.heap.size WI V) (hk : RowK V WI.heap.size kv ((l.map (·.1)).take j)) (hj : j < l.length) (hl : l.length ≤ 1000) :
    ∃ g x1 U, (∃ c, v = .slice (some ⟨g, 0, none⟩) l.length c) ∧ V.cell? ⟨g, j * 2, none⟩ = some (.string x1) ∧ (∀ (a : Act) (o : Oper) (z : Operand), o.op = .buildSlice 37 1 #[(0, z)] → a.eval z = .string x1 → (execOp a.eval o).run Try.prog V = .ok (.value (.slice (some ⟨V.heap.size, 0, none⟩) 1 1)) U) ∧
      ∃ a m c V', (Builtin.append_ #[37, 37] 37 #[kv, .slice (some ⟨V.heap.size, 0, none⟩) 1 1]).run Try.prog U = .ok (.slice a m c) V' ∧ Below WI.heap.size WI V' ∧ RowK V' WI.heap.size (.slice a m c) ((l.map (·.1)).take (j + 1)) := by
  obtain ⟨x, hx⟩ := getElem?_of_lt hj
  obtain ⟨a, c, e, _, hat⟩ := hr.items
  obtain ⟨g, e1, h2, h3, _⟩ := hat j x hx
  subst e1
  have hbU := below_alloc V (.cells #[.string x.1] 9)
  obtain ⟨a', m', c', V', k1, k2, k3⟩ := RowK.snoc (w := WI) (x := x.1) (Nat.le_trans hb.size hbU.size) (row_on hk hbU) (by rw [List.length_take]; omega) (new_blk V _) (below_step hb hbU) 37
  refine ⟨g, x.1, _, ⟨c, e⟩, (hb.cell (p := ⟨g, j * 2, none⟩) h2).trans h3, fun a o z q1 q2 => run_buildS V x.1 a o z q1 q2, a', m', c', V', k1, k3, ?_⟩
  rw [List.take_add_one, List.getElem?_map, hx]
  exact k2
end Go.Proofs.Ytlpkpookheafpaa
