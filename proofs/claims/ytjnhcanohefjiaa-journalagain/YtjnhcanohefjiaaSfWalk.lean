/- The law JournalSafe, walked. -/
import Derived.Test.YtjnhcanohefjiaaJOwn
namespace Go.Proofs.Ytjnhcanohefjiaa
open Go.RowKit Go.Sort Go.Maps

/-- Whatever a restart leaves, so many records are told. -/
def Tell (d : Dev) (sf : Nat) : Prop := ∀ ns : List Int, okD (restartD d ns) ∧ (restartD d ns).r = 1 ∧ (restartD d ns).s = 64 ∧ sf ≤ (openJ (restartD d ns) (arN 64) 7).pss.length
/-- What was laid behind so far, and what is safe of it. -/
structure SfI (i : Nat) (d : Dev) (K : Nat) (J : Jr) (yss : List (List Nat)) (sf : Nat) : Prop where
  a : J.a = arN 64
  ep : J.ep = 7
  pss : J.pss = yss
  row : J.row.length ≤ 124 * i
  cnt : yss.length ≤ i
  tell : Tell d sf
  calm : d.crashed = false → Calm d J ∧ sf = J.sf
  K : K ≤ 64 + 64 * i
  dim : d.r = 1 ∧ d.s = 64
def SfAt (w : World) (bx q : Nat) (lv : Value) (i sf : Nat) (wr : World) : Prop := ∃ d K J rv ev yss, LI w bx q 64 d K J rv ev wr ∧ SfI i d K J yss sf ∧ LsF wr (MineL w q rv ev) w.heap.size lv yss
theorem SfI.more {i : Nat} {d : Dev} {K : Nat} {J : Jr} {yss : List (List Nat)} {sf : Nat} (h : SfI i d K J yss sf) : SfI (i + 1) d K J yss sf :=
  ⟨h.a, h.ep, h.pss, by have := h.row; omega, by have := h.cnt; omega, h.tell, h.calm, by have := h.K; omega, h.dim⟩
theorem tell_calm {d : Dev} {J : Jr} (h : Calm d J) (hj : okJ J) (ha : J.a = arN 64) (he : J.ep = 7) (hr : d.r = 1) (hs : d.s = 64) : Tell d J.sf := fun ns => by
  have ht := h.told hj ns
  rw [ha, he] at ht
  refine ⟨okD_restart' h.ok ns, hr, hs, ?_⟩
  rw [ht, List.length_take]
  have := hj.sf
  omega
/-- The journal with one more. -/
def plusJ (J : Jr) (xs : List Nat) : Jr := { J with pss := J.pss ++ [xs] }
theorem plus_calm {d : Dev} {J : Jr} {xs : List Nat} (h : Calm d J) (hs : J.sf ≤ J.pss.length) : Calm d (plusJ J xs) := by
  refine ⟨h.ok, h.pend, h.cr, h.inn, ?_, h.alive⟩
  show Lies d J.a (allB J.ep ((J.pss ++ [xs]).take J.sf))
  rw [List.take_append_of_le_length hs]
  exact h.lies
theorem plus_row {J : Jr} {xs : List Nat} (he : J.ep < 18446744073709551616) (hx : xs.length ≤ 100) : (plusJ J xs).row.length ≤ J.row.length + 124 := by
  have := rec_le J.ep he xs (by omega)
  show ({ J with pss := J.pss ++ [xs] } : Jr).row.length ≤ _
  rw [app_row, List.length_append]
  omega
/-- One more is laid behind. -/
theorem sf_app {w wr : World} {bx q i sf : Nat} {d : Dev} {K : Nat} {J : Jr} {rv ev lv : Value} {yss : List (List Nat)} (hL : LI w bx q 64 d K J rv ev wr) (hS : SfI i d K J yss sf) (hi : i < 20) (hcr : d.crashed = false) {V : World} (hV : Below wr.heap.size wr V) (hls : LsF V (MineL w q rv ev) w.heap.size lv yss) (u : Value) (xs : List Nat) (h100 : xs.length ≤ 100) (h0 : xs ≠ []) (hx : ∀ x ∈ xs, x < 256) (hp : PayF V (MineL w q rv ev) u xs) :
    Calls Try.prog 10 #[.pointer (some ⟨q, 0, none⟩), u] V fun e w' => e = .returned .nilIface ∧ ∃ rv ev, LI w bx q 64 d K (plusJ J xs) rv ev w' ∧ LsF w' (MineL w q rv ev) w.heap.size lv yss ∧ PayF w' (MineL w q rv ev) u xs := by
  have hc := (hS.calm hcr).1
  have hs : J.a.s.toNat = 64 := by rw [hS.a]; rfl
  have hrow := hS.row
  obtain ⟨e1, e2⟩ := app_room (J := J) (xs := xs) hc.alive h0 (by omega) hL.jn.jr.ok.ep (by rw [hs]; omega)
  have hLV := hL.on hV
  have hp' := hp
  obtain ⟨g, cc, hu, hby, _⟩ := hp'
  subst hu
  refine (jappend_ hLV.jn _ xs _ cc rfl hby hx (fun q => by cases q) (by omega)).mono fun e w' ⟨q1, q2⟩ => ⟨by rw [q1, e1]; rfl, ?_⟩
  obtain ⟨rv', ev', k1, k2⟩ := hLV.to q2
  rw [e2] at k1
  exact ⟨rv', ev', k1, hls.ext hLV.jn k2, hp.ext k2⟩
theorem sf_keep {i : Nat} {d : Dev} {K : Nat} {J : Jr} {yss : List (List Nat)} {sf : Nat} {xs : List Nat} (hS : SfI i d K J yss sf) (hj : okJ J) (hcr : d.crashed = false) (hx : xs.length ≤ 100) : SfI (i + 1) d K (plusJ J xs) (yss ++ [xs]) sf := by
  obtain ⟨hc, hsf⟩ := hS.calm hcr
  refine ⟨hS.a, hS.ep, by show J.pss ++ [xs] = _; rw [hS.pss], ?_, ?_, hS.tell, fun _ => ⟨plus_calm hc hj.sf, hsf⟩, by have := hS.K; omega, hS.dim⟩
  · have := plus_row (J := J) (xs := xs) hj.ep hx
    have := hS.row
    omega
  · rw [List.length_append, List.length_singleton]
    have := hS.cnt
    omega
/-- All of them flushed, or the device crashed. -/
theorem sf_flush {w wr : World} {bx q i sf : Nat} {d : Dev} {K : Nat} {J : Jr} {rv ev lv : Value} {yss : List (List Nat)} (hL : LI w bx q 64 d K J rv ev wr) (hS : SfI i d K J yss sf) (hK : K ≤ 64 * i) (hi : i ≤ 20) (hcr : d.crashed = false) (hls : LsF wr (MineL w q rv ev) w.heap.size lv yss) :
    Calls Try.prog 11 #[.pointer (some ⟨q, 0, none⟩)] wr fun e w' => e = .returned (errV (flushE d J)) ∧ (flushE d J = 0 → SfAt w bx q lv i yss.length w') ∧ (flushE d J ≠ 0 → SfAt w bx q lv i sf w' ∧ Calls Try.prog 9 #[.pointer (some ⟨w.heap.size + 2, 0, none⟩)] w' fun e w'' => e = .returned (.bool true) ∧ w'' = w') := by
  obtain ⟨hc, hsf⟩ := hS.calm hcr
  have hok := hL.jn.jr.ok
  have hs : J.a.s.toNat = 64 := by rw [hS.a]; rfl
  obtain ⟨b1, b2, b3⟩ := flush_bad hc hok
  refine (jflush_ hL.jn (by rw [hs]; omega)).mono fun e w' ⟨q1, q2⟩ => ⟨q1, fun h0 => ?_, fun h0 => ?_⟩
  · obtain ⟨rv', ev', k1, k2⟩ := hL.to q2
    obtain ⟨g1, g2⟩ := hc.flush hok h0
    have hls' := hls.ext hL.jn k2
    rw [g2] at k1 g1
    have ht := tell_calm (J := { J with sf := J.pss.length }) g1 hok.all hS.a hS.ep (b1.trans hS.dim.1) (b2.trans hS.dim.2)
    have hcount : J.pss.length = yss.length := by rw [hS.pss]
    rw [← hcount]
    exact ⟨_, _, _, rv', ev', yss, k1, ⟨hS.a, hS.ep, hS.pss, hS.row, hS.cnt, ht, fun _ => ⟨g1, rfl⟩, by rw [hs]; omega, b1.trans hS.dim.1, b2.trans hS.dim.2⟩, hls'⟩
  · obtain ⟨rv', ev', k1, k2⟩ := hL.to q2
    have hls' := hls.ext hL.jn k2
    have hcrash := b3 h0
    have ht : Tell (flushD d J) sf := fun ns => by
      obtain ⟨c1, c2, c3, c4⟩ := hc.crash hok ns
      rw [hS.a, hS.ep, ← hsf] at c4
      exact ⟨c1, c2.trans hS.dim.1, c3.trans hS.dim.2, c4⟩
    have hJ : (flushJ d J).a = J.a ∧ (flushJ d J).ep = J.ep ∧ (flushJ d J).pss = J.pss := by
      unfold flushJ
      split
      · exact ⟨rfl, rfl, rfl⟩
      · split
        · exact ⟨rfl, rfl, rfl⟩
        · split <;> exact ⟨rfl, rfl, rfl⟩
    refine ⟨⟨_, _, _, rv', ev', yss, k1, ⟨hJ.1.trans hS.a, hJ.2.1.trans hS.ep, hJ.2.2.trans hS.pss, ?_, hS.cnt, ht, fun hh => (by rw [hcrash] at hh; cases hh), by rw [hs]; omega, b1.trans hS.dim.1, b2.trans hS.dim.2⟩, hls'⟩, ?_⟩
    · show (allB (flushJ d J).ep (flushJ d J).pss).length ≤ _
      rw [hJ.2.1, hJ.2.2]
      exact hS.row
    · have := crashed_ k1.jn.dev
      rw [hcrash] at this
      exact this
/-- A new device, opened and armed. -/
theorem sf_start {w W : World} {bx q : Nat} {d : Dev} {rv ev : Value} (hL : LI w bx q 64 d 64 ⟨arN 64, 7, [], 0, 0⟩ rv ev W) (hc : Calm d ⟨arN 64, 7, [], 0, 0⟩) (hr : d.r = 1) (hs : d.s = 64) (k : Nat) (hk : (k : Int) ≤ 9223372036854775807) :
    Calls Try.prog 8 #[.pointer (some ⟨w.heap.size + 2, 0, none⟩), .int .i64 k] W fun e w' => e = .returned .nilIface ∧ SfAt w bx q (.slice none 0 0) 0 0 w' := by
  refine (arm_ hL.jn.dev k (by omega) hk).mono fun e w' ⟨h1, h2, h3⟩ => ⟨h1, ?_⟩
  have hc' := hc.arm true k
  have hL' := hL.ext (hL.jn.fd h2 h3) (Ext.of_fd q rv ev h3)
  exact ⟨_, _, _, _, _, [], hL', ⟨rfl, rfl, rfl, Nat.le_refl _, Nat.le_refl _, tell_calm hc' hL'.jn.jr.ok rfl rfl hr hs, fun _ => ⟨hc', rfl⟩, by decide, hr, hs⟩, lsF_nil _ _ _⟩
/-- What stands behind the restart: the records that are told, and what lies on the device then. -/
structure SfEnd (w : World) (la lla : Option Addr) (l yss : List (List Nat)) (W : World) : Prop where
  bw : Below w.heap.size w W
  inL : ListIn W la l
  inY : ListIn W lla yss
  lb : ∀ ys ∈ l, ∀ x ∈ ys, x < 256
  yb : ∀ ys ∈ yss, ∀ x ∈ ys, x < 256
  ch : ∀ V, Below W.heap.size W V → ∀ llc, Calls Try.prog 13 #[.pointer (some ⟨w.heap.size + 2, 0, none⟩), .slice lla yss.length llc] V fun e w' => e = .returned (.bool (chB l yss)) ∧ Below V.heap.size V w'
  ln : l.length ≤ 10000000
  yn : yss.length ≤ 10000000
theorem sf_open {w wr : World} {lla : Option Addr} {d : Dev} {K : Nat} {yss : List (List Nat)} (hd : DevIn wr (w.heap.size + 2) w.heap.size (w.heap.size + 1) d K) (hr : Rest d (arN 64)) (hK : K ≤ 100000) (hb : Below w.heap.size w wr) (hy : ListIn wr lla yss) (hyb : ∀ ys ∈ yss, ∀ x ∈ ys, x < 256) (hyn : yss.length ≤ 10000000) :
    Calls Try.prog 7 #[.pointer (some ⟨w.heap.size + 2, 0, none⟩), .agg #[.int .i64 0, .int .i64 0, .int .i64 64], .int .u64 7] wr fun e w' => ∃ q la lc, e = .returned (.tuple #[.pointer (some ⟨q, 0, none⟩), .slice la (openJ d (arN 64) 7).pss.length lc, .nilIface]) ∧ SfEnd w la lla (openJ d (arN 64) 7).pss yss w' := by
  obtain ⟨o1, o2, o3⟩ := hr.opened (ep := 7) (by decide)
  have hjo := open_okJ (a := arN 64) (ep := 7) hr.ok hr.inn hr.lim (by decide)
  have hcn := hjo.count
  refine (open_rest 64 (by decide) 7 (by decide) hd hr ⟨by omega, by omega, by omega⟩ hb.size (by omega)).mono fun e w' ⟨q, rv, ev, la, lc, g1, g2, g3, g4, g5⟩ => ⟨q, la, lc, g1, ?_⟩
  have hM : ∀ k, (k = w.heap.size + 2 ∨ k = w.heap.size ∨ k = w.heap.size + 1) → k = w.heap.size + 2 ∨ k = w.heap.size ∨ k = w.heap.size + 1 ∨ wr.heap.size ≤ k := fun k hk => by rcases hk with h | h | h <;> simp [h]
  have hyw := ((hy.free hd (M := fun k => k = w.heap.size + 2 ∨ k = w.heap.size ∨ k = w.heap.size + 1) hM).ext g5).list
  have hseen := open_seen (ep := 7) hr (by decide)
  refine ⟨hb.trans (g5.below hb.size (fun k hk => by rcases hk with e | e | e <;> omega)), g3.list, hyw, fun ys hys => (hjo.pays ys hys).2.2, hyb, fun V hV llc => ?_, by omega, hyn⟩
  have hq := chance_ (g2.dev.on hV) o2.cr o2.inn lla yss yss.length llc rfl (hyw.on hV) hyn hyb
  rw [hseen] at hq
  exact hq
set_option maxRecDepth 100000 in
set_option maxHeartbeats 8000000 in
theorem safe_law (a1 : Option Addr) (n1 c1 : Nat) (f1 : Nat → TxV) (fa : Option Addr) (fs : List Int) (fn fc : Nat) (am : Int) (ca : Option Addr) (cs : List Int) (cn cc : Nat) (w : World) (hin1 : TxsAt w a1 n1 f1) (hfi : IntsIn w fa fs) (hfn : fs.length = fn) (hci : IntsIn w ca cs) (hcn : cs.length = cn) (hcz : ca = none → cc = 0) (hcl : cs.length * 8 ≤ 140737488355328) :
    Calls Try.prog 3 #[.slice a1 n1 c1, .slice fa fn fc, .agg #[.int .i64 am, .slice ca cn cc]] w fun e w' => e = .returned (.bool true) ∧ Below w.heap.size w w' := by
  have HSu := Lib.hid (fun W => sure_ W)
  obtain ⟨B0, hB0⟩ : ∃ B0, B0 = w.alloc (.cells #[.int .i64 am, .slice ca cn cc] 25) := ⟨_, rfl⟩
  have hbB : Below w.heap.size w B0 := by rw [hB0]; exact below_alloc _ _
  have z0 : B0.cell? ⟨w.heap.size, 0, none⟩ = some (.int .i64 am) := by rw [hB0]; exact cell_of (World.alloc_heap_new' _ _) rfl
  have z1 : B0.cell? ⟨w.heap.size, 1, none⟩ = some (.slice ca cn cc) := by rw [hB0]; exact cell_of (World.alloc_heap_new' _ _) rfl
  have HBB := Lib.hid hbB
  have HB0 := Lib.hid hB0
  have HT1 := Lib.hid (hin1.on hbB)
  have HFi := Lib.hid (hfi.on hbB)
  have HCi := Lib.hid (And.intro (hci.on hbB) (And.intro hcn (And.intro hcz hcl)))
  have HFn := Lib.hid hfn
  clear hin1 hfi hci hB0 hbB hcn hcz hcl hfn
  go_enter Try.func3, Try.ntmps3
  go_wp2_with fail
  rw [← HB0.out]
  go_big_quiet (fail)
  have hbq := below_drewNs B0 nq
  have HBq := Lib.hid (below_step HBB.out hbq)
  have HT2 := Lib.hid (HT1.out.on hbq)
  have HFi2 := Lib.hid (HFi.out.on hbq)
  have HCi2 := Lib.hid (And.intro (HCi.out.1.on hbq) HCi.out.2)
  generalize B0.drewN nq = w0 at *
  clear hbq HBB HB0 HT1 HFi HCi z0 z1
  have HN := Lib.hid (new_ 1 64 w0 (by omega))
  obtain ⟨o1, o2, o3⟩ := opened_new 64 (by decide) (by decide) 7 (by decide)
  obtain ⟨_, _, _, _, o5, o6⟩ := clean_good (okD_new 1 (64 : Nat)) rfl rfl (inJ_n 64 (by decide)) (fun x hx => by cases hx) (begins_nil _ _) o1
  obtain ⟨d1, hd1⟩ : ∃ d1, d1 = cleanD (arN 64) [] (newD 1 (64 : Nat)) := ⟨_, rfl⟩
  have HO1 : Hid (∀ W, DevIn W (w0.heap.size + 2) w0.heap.size (w0.heap.size + 1) (newD 1 64) 0 → w0.heap.size ≤ W.heap.size → Calls Try.prog 7 #[.pointer (some ⟨w0.heap.size + 2, 0, none⟩), .agg #[.int .i64 0, .int .i64 0, .int .i64 64], .int .u64 7] W fun e w' => ∃ q la lc, e = .returned (.tuple #[.pointer (some ⟨q, 0, none⟩), .slice la 0 lc, .nilIface]) ∧ ∃ rv ev, Jn w' w0.heap.size (w0.heap.size + 2) w0.heap.size (w0.heap.size + 1) q d1 64 ⟨arN 64, 7, [], 0, 0⟩ rv ev ∧ Ext (fun k => k = w0.heap.size + 2 ∨ k = w0.heap.size ∨ k = w0.heap.size + 1) (MineL w0 q rv ev) W w') := fun W hd hw => by
    rw [hd1]
    exact open_first 64 (by decide) (by decide) 7 (by decide) hd ⟨by omega, by omega, by omega⟩ hw
  rw [← hd1] at o2 o3 o5 o6
  have HC1 := Lib.hid (And.intro o2 (And.intro o5 o6))
  clear o1 o2 o3 o5 o6 hd1
  go_wp2_with fail
  refine HN.out.mono ?_
  rintro e w1 ⟨rfl, hb1, hd1'⟩
  unfold pt
  obtain ⟨W, hW⟩ : ∃ W, W = w1.alloc (.cells #[.int .i64 0, .int .i64 0, .int .i64 64] 32) := ⟨_, rfl⟩
  have hbW : Below w1.heap.size w1 W := by rw [hW]; exact below_alloc _ _
  have HA : Hid (ArAt W w1.heap.size (arN 64)) := by rw [hW]; exact World.alloc_heap_new' _ _
  have HD := Lib.hid (hd1'.on hbW)
  have HB := Lib.hid (below_step hb1 hbW)
  have HW := Lib.hid hW
  obtain ⟨x0, x1, x2⟩ := HA.out.cells
  have hbx : w0.heap.size + 3 ≤ w1.heap.size := by have := hd1'.lts.1; omega
  clear hW hbW hb1 hd1' HN
  go_wp2_with fail
  rw [← HW.out]
  refine (HO1.out W HD.out HB.out.size).mono ?_
  rintro e w2 ⟨q, la, lc, rfl, rv, ev, hj2, hx2⟩
  have hL2 : LI w0 w1.heap.size q 64 d1 64 ⟨arN 64, 7, [], 0, 0⟩ rv ev w2 := ⟨HB.out.trans (hx2.below HB.out.size (fun k hk => by rcases hk with e | e | e <;> omega)), hj2, HA.out.ext hx2 (by rintro (e | e | e) <;> omega)⟩
  generalize w1.heap.size = bx at *
  obtain ⟨ar, har⟩ : ∃ ar : Nat, (am % 18446744073709551616) % 40 = (ar : Int) := ⟨((am % 18446744073709551616) % 40).toNat, by omega⟩
  have har40 : ar < 40 := by omega
  have HArm := Lib.hid (sf_start hL2 HC1.out.1 HC1.out.2.1 HC1.out.2.2 ar (by omega))
  have hwa : IntKind.u64.wrap am = am % 18446744073709551616 := by rw [IntKind.wrap_u64]
  have hwr : IntKind.u64.wrap ((am % 18446744073709551616) % 40) = (ar : Int) := by rw [har, IntKind.wrap_u64]; omega
  have hwa2 := wraps_i64 (ar : Int) (by omega) (by omega)
  have ht1 : (am % 18446744073709551616).tmod 40 = (ar : Int) := by rw [Int.tmod_eq_emod_of_nonneg (by omega)]; exact har
  clear hj2 hx2 HB HA HD HW x0 x1 x2 HO1 hbx hL2 HC1
  go_wp2_with fail
  refine HArm.out.mono ?_
  rintro e w3 ⟨rfl, hs3⟩
  have HI0 := Lib.hid hs3
  clear hs3 HArm hwa hwr hwa2 ht1 har har40
  go_wp2_with fail
  go_loopw [15, 16, 17] (fun sv fv iv wr => ∃ (lv : Value) (i sf : Nat), lv = sv ∧ fv = .int .i64 sf ∧ iv = .int .i64 i ∧ i ≤ n1 ∧ i ≤ 20 ∧ Hid (SfAt w0 bx q lv i sf wr)) (fun _ _ iv _ => 20 - (intOf iv).toNat)
  case atStart => exact ⟨_, 0, 0, rfl, rfl, rfl, Nat.zero_le _, by omega, HI0⟩
  case round =>
    obtain ⟨lv, i, sf, rfl, rfl, rfl, hin, hi20, HI⟩ := hrel
    clear HI0
    obtain ⟨d, K, J, rv2, ev2, yss, hLI, hS, hls⟩ := HI.out
    have HCr := Lib.hid (crashed_ hLI.jn.dev)
    have HLI := Lib.hid hLI
    have HS := Lib.hid hS
    have HLs := Lib.hid hls
    obtain ⟨lla, llc, hlv, _⟩ := hls.slice
    have hyc := hS.cnt
    clear HI hLI hS hls
    subst hlv
    generalize hyl : yss.length = yl at *
    have HYL := Lib.hid hyl
    clear hyl
    by_cases hgo : i < n1 ∧ i < 20 ∧ d.crashed = false
    · obtain ⟨hl1, hl2, hcr⟩ := hgo
      have hlt1 : (i : Int) < (n1 : Int) := by omega
      have hlt2 : (i : Int) < 20 := by omega
      have hi0 : (0 : Int) ≤ (i : Int) := by omega
      rw [hcr] at HCr
      obtain ⟨b, o, rfl, hcl0, hby, hbt, hnl, hcp⟩ := HT2.out i hl1
      have FC : Hid (∀ V, Below wr.heap.size wr V → V.cell? ⟨b, o + i, none⟩ = some (.slice (f1 i).a (f1 i).xs.length (f1 i).c)) := fun V hV => ((below_step HLI.out.bw hV).cell (block_lt_of_cell hcl0)).trans hcl0
      obtain ⟨m, hm⟩ : ∃ m, m = min (f1 i).xs.length 100 := ⟨_, rfl⟩
      obtain ⟨xs, hxs⟩ : ∃ xs, xs = cutP 100 (f1 i).xs := ⟨_, rfl⟩
      have hxl : xs.length = m := by rw [hm, hxs]; exact cutP_len 100 _
      have HX : Hid (BytesIn w0 (f1 i).a xs ∧ (∀ x ∈ xs, x < 256) ∧ ((f1 i).a = none → (f1 i).c = 0)) := ⟨by rw [hxs]; exact hby.take _, fun x hx => hbt x (by rw [hxs] at hx; exact List.mem_of_mem_take hx), hnl⟩
      have HXL := Lib.hid hxl
      have hmm : min ((f1 i).xs.length : Int) 100 = (m : Int) := by omega
      have hmc : (m : Int) ≤ ((f1 i).c : Int) := by omega
      have hm0 : (0 : Int) ≤ (m : Int) := by omega
      have hm100 : m ≤ 100 := by omega
      clear hcl0 hby hbt hnl hcp hm hxs hxl
      generalize (f1 i).a = ta at *
      generalize (f1 i).xs.length = l at *
      generalize (f1 i).c = tc at *
      go_wp2_with (first | (go_at_call 9; refine HCr.out.mono ?_; rintro e w4 ⟨rfl, rfl⟩) | fail)
      refine wp_region_noPanic ?_
      refine wp_region_held_drew (S := fun V => Below w4.heap.size w4 V) (by kernel_rfl) (below_drew _) (fun hHeld => ?_)
      refine take_at 0 (.slice none 0 0) rfl (by kernel_rfl) (by kernel_rfl) (by kernel_rfl) (fun _ _ _ h => h) (Or.inl ⟨by rfl, ?_⟩) (by assumption) ?_
      · intro V hSV; go_simp
      simp only [Act.put, List.setIfInBounds_toArray, List.set_cons_zero, List.set_cons_succ]
      refine take_at 1 (.slice (some ⟨b, o, none⟩) n1 c1) rfl (by kernel_rfl) (by kernel_rfl) (by kernel_rfl) (fun _ _ _ h => h) (Or.inl ⟨by rfl, ?_⟩) (by assumption) ?_
      · intro V hSV; go_simp
      simp only [Act.put, List.setIfInBounds_toArray, List.set_cons_zero, List.set_cons_succ]
      refine take_at 2 (.int .i64 i) rfl (by kernel_rfl) (by kernel_rfl) (by kernel_rfl) (fun _ _ _ h => h) (Or.inl ⟨by rfl, ?_⟩) (by assumption) ?_
      · intro V hSV; go_simp
      simp only [Act.put, List.setIfInBounds_toArray, List.set_cons_zero, List.set_cons_succ]
      refine take_at 3 (.pointer (some ⟨b, o + i, none⟩)) rfl (by kernel_rfl) (by kernel_rfl) (by kernel_rfl) (fun _ _ _ h => h) (Or.inl ⟨by rfl, ?_⟩) (by assumption) ?_
      · intro V hSV; go_simp
      simp only [Act.put, List.setIfInBounds_toArray, List.set_cons_zero, List.set_cons_succ]
      refine take_at 4 (.slice ta l tc) rfl (by kernel_rfl) (by kernel_rfl) (by kernel_rfl) (fun _ _ _ h => h) (Or.inl ⟨by rfl, ?_⟩) (by assumption) ?_
      · intro V hSV; have e0 := FC.out V hSV; go_simp
      simp only [Act.put, List.setIfInBounds_toArray, List.set_cons_zero, List.set_cons_succ]
      refine take_at 5 (.slice (some ⟨b, o, none⟩) n1 c1) rfl (by kernel_rfl) (by kernel_rfl) (by kernel_rfl) (fun _ _ _ h => h) (Or.inl ⟨by rfl, ?_⟩) (by assumption) ?_
      · intro V hSV; go_simp
      simp only [Act.put, List.setIfInBounds_toArray, List.set_cons_zero, List.set_cons_succ]
      refine take_at 6 (.int .i64 i) rfl (by kernel_rfl) (by kernel_rfl) (by kernel_rfl) (fun _ _ _ h => h) (Or.inl ⟨by rfl, ?_⟩) (by assumption) ?_
      · intro V hSV; go_simp
      simp only [Act.put, List.setIfInBounds_toArray, List.set_cons_zero, List.set_cons_succ]
      refine take_at 7 (.pointer (some ⟨b, o + i, none⟩)) rfl (by kernel_rfl) (by kernel_rfl) (by kernel_rfl) (fun _ _ _ h => h) (Or.inl ⟨by rfl, ?_⟩) (by assumption) ?_
      · intro V hSV; go_simp
      simp only [Act.put, List.setIfInBounds_toArray, List.set_cons_zero, List.set_cons_succ]
      refine take_at 8 (.slice ta l tc) rfl (by kernel_rfl) (by kernel_rfl) (by kernel_rfl) (fun _ _ _ h => h) (Or.inl ⟨by rfl, ?_⟩) (by assumption) ?_
      · intro V hSV; have e0 := FC.out V hSV; go_simp
      simp only [Act.put, List.setIfInBounds_toArray, List.set_cons_zero, List.set_cons_succ]
      refine take_at 9 (.int .i64 l) rfl (by kernel_rfl) (by kernel_rfl) (by kernel_rfl) (fun _ _ _ h => h) (Or.inl ⟨by rfl, ?_⟩) (by assumption) ?_
      · intro V hSV; go_simp
      simp only [Act.put, List.setIfInBounds_toArray, List.set_cons_zero, List.set_cons_succ]
      refine take_at 10 (.int .i64 m) rfl (by kernel_rfl) (by kernel_rfl) (by kernel_rfl) (fun _ _ _ h => h) (Or.inl ⟨by rfl, ?_⟩) (by assumption) ?_
      · intro V hSV; go_simp
      simp only [Act.put, List.setIfInBounds_toArray, List.set_cons_zero, List.set_cons_succ]
      refine take_at 11 (.slice ta m tc) rfl (by kernel_rfl) (by kernel_rfl) (by kernel_rfl) (fun _ _ _ h => h) (Or.inl ⟨by rfl, ?_⟩) (by assumption) ?_
      · intro V hSV; go_simp
      simp only [Act.put, List.setIfInBounds_toArray, List.set_cons_zero, List.set_cons_succ]
      refine wpAnyH_ready (rs := [12]) (by kernel_rfl) (by simp) ?_
      refine cons_op 12 rfl (fun KK hK => ?_) AllReadyH.nil
      refine step_append_bytes _ rfl _ _ rfl w4.heap.size _ [] xs rfl (own_nil _ _) ta m tc rfl HXL.out HX.out.2.2 ((HX.out.1.on HLI.out.bw).on hHeld) (by rw [HXL.out]; simp; omega) (Nat.le_refl _) ?_
      intro v5 w5 hown5 hgrow5
      have hb5 : Below w4.heap.size w4 w5 := (below_drew w4).grown hgrow5 (Nat.le_refl _) (fun k hk => by cases hk)
      rw [List.nil_append] at hown5
      obtain ⟨xa, xc, hv5, _, _⟩ := hown5.bytes
      rw [HXL.out] at hv5
      subst hv5
      refine hK.out _ _ hb5 (fun hHeld12 => ?_)
      simp only [Act.put, List.setIfInBounds_toArray, List.set_cons_zero, List.set_cons_succ]
      have HO5 := Lib.hid hown5
      have HB5 := Lib.hid hb5
      clear hK KK hown5 hgrow5 hb5
      refine take_at 13 (.slice xa m xc) rfl (by kernel_rfl) (by kernel_rfl) (by kernel_rfl) (fun _ _ _ h => h) (Or.inl ⟨by rfl, ?_⟩) (by assumption) ?_
      · intro V hSV; go_simp
      simp only [Act.put, List.setIfInBounds_toArray, List.set_cons_zero, List.set_cons_succ]
      refine wpAnyH_done (by kernel_rfl) ?_ _
      refine NoPanic.normal ?_
      clear hHeld hHeld12 FC
      by_cases hm00 : m = 0
      · have hz : ((m : Int) == 0) = true := by simp [hm00]
        have HN : Hid (SfAt w0 bx q (.slice lla yl llc) (i + 1) sf w5) := ⟨d, K, J, rv2, ev2, yss, HLI.out.on HB5.out, HS.out.more, HLs.out.on HB5.out⟩
        clear hm00 HO5 HX HXL HLs HS HLI HCr
        go_wp2_with fail
        go_roundw
        case rel => exact ⟨_, i + 1, sf, rfl, rfl, by go_num, by omega, by omega, HN⟩
        case measure => simp [intOf]; omega
      · have hz : ((m : Int) == 0) = false := by simpa using (by omega : ¬ (m : Int) = 0)
        have hx0 : xs ≠ [] := fun e => hm00 (by rw [← HXL.out, e]; rfl)
        have HAp := Lib.hid (sf_app HLI.out HS.out hl2 hcr HB5.out (HLs.out.on HB5.out) (.slice xa m xc) xs (by rw [HXL.out]; exact hm100) hx0 HX.out.2.1 (own_payF HLI.out.jn HO5.out hx0))
        have HSk := Lib.hid (sf_keep HS.out HLI.out.jn.jr.ok hcr (xs := xs) (by rw [HXL.out]; exact hm100))
        have hKb : K ≤ 64 * (i + 1) := by have := HS.out.K; omega
        have FinA : Hid (∀ V rv6 ev6 v8, LI w0 bx q 64 d K (plusJ J xs) rv6 ev6 V → LsF V (MineL w0 q rv6 ev6) w0.heap.size v8 (yss ++ [xs]) → SfAt w0 bx q v8 (i + 1) sf V) := fun V rv6 ev6 v8 g1 g2 => ⟨d, K, plusJ J xs, rv6, ev6, yss ++ [xs], g1, HSk.out, g2⟩
        have FinB : Hid (∀ V rv6 ev6 v8, LI w0 bx q 64 d K (plusJ J xs) rv6 ev6 V → LsF V (MineL w0 q rv6 ev6) w0.heap.size v8 (yss ++ [xs]) → Calls Try.prog 11 #[.pointer (some ⟨q, 0, none⟩)] V fun e w' => e = .returned (errV (flushE d (plusJ J xs))) ∧ (flushE d (plusJ J xs) = 0 → SfAt w0 bx q v8 (i + 1) (yl + 1) w') ∧ (flushE d (plusJ J xs) ≠ 0 → SfAt w0 bx q v8 (i + 1) sf w' ∧ Calls Try.prog 9 #[.pointer (some ⟨w0.heap.size + 2, 0, none⟩)] w' fun e w'' => e = .returned (.bool true) ∧ w'' = w')) := fun V rv6 ev6 v8 g1 g2 => by
          have q1 := sf_flush g1 HSk.out hKb (by omega) hcr g2
          rw [List.length_append, List.length_singleton, HYL.out] at q1
          exact q1
        clear hx0 hm00 HO5 HX HXL HLs HS HLI HCr HSk hKb
        by_cases hf1 : i < fn
        · have hf2 : (i : Int) < (fn : Int) := by omega
          obtain ⟨fb, fo, hfa, hzc⟩ := HFi2.out i (by have := HFn.out; omega)
          subst hfa
          generalize fs[i]'(by have := HFn.out; omega) = z at *
          obtain ⟨r, hr⟩ : ∃ r : Nat, (z % 18446744073709551616) % 2 = (r : Int) := ⟨((z % 18446744073709551616) % 2).toNat, by omega⟩
          have hwz : IntKind.u64.wrap z = z % 18446744073709551616 := by rw [IntKind.wrap_u64]
          have hwr2 : IntKind.u64.wrap ((z % 18446744073709551616) % 2) = (r : Int) := by rw [hr, IntKind.wrap_u64]; omega
          have htz : (z % 18446744073709551616).tmod 2 = (r : Int) := by rw [Int.tmod_eq_emod_of_nonneg (by omega)]; exact hr
          have hwr3 := wraps_i64 (r : Int) (by omega) (by omega)
          by_cases hr1 : r = 1
          · subst hr1
            obtain ⟨k, hk⟩ : ∃ k, k = flushE d (plusJ J xs) := ⟨_, rfl⟩
            rw [← hk] at FinB
            clear hk
            by_cases hk0 : k = 0
            · subst hk0
              have e00 : errV 0 = .nilIface := rfl
              simp only [e00] at FinB
              go_wp2_with (first
              | (go_at_call 10; refine HAp.out.mono ?_; rintro e w6 ⟨rfl, rv6, ev6, hL6, hls6, hp6⟩
                 obtain ⟨vs, hr6, hn6, h36⟩ := hls6.on (below_alloc w6 (.cells #[.slice xa m xc] 40))
                 have HL6 := Lib.hid (hL6.on (below_alloc w6 (.cells #[.slice xa m xc] 40)))
                 have HR6 := Lib.hid (And.intro hr6 (And.intro hn6 (And.intro h36 (hp6.ext (Ext.of_below _ (below_alloc w6 (.cells #[.slice xa m xc] 40)))))))
                 have hvl : vs.length ≤ 10000000 := by rw [hn6, HYL.out]; omega
                 clear hL6 hls6 hp6 hr6 hn6 h36)
              | (at_builtin; refine wpList_append_row _ rfl _ _ rfl w0.heap.size _ vs (.slice xa m xc) rfl HR6.out.1 w6.heap.size rfl (cell_of (World.alloc_heap_new' _ _) rfl) rfl hvl HL6.out.bw.size ?_
                 intro v8 w8 hown8 hgrow8
                 have HL8 := Lib.hid (HL6.out.grow HR6.out.1 hgrow8)
                 have HLs8 := Lib.hid (LsF.snoc HR6.out.1 HR6.out.2.1 HR6.out.2.2.1 HR6.out.2.2.2 hown8 hgrow8)
                 obtain ⟨la8, lc8, hv8, _⟩ := HLs8.out.slice
                 rw [List.length_append, List.length_singleton, HYL.out] at hv8
                 subst hv8
                 have zc : w8.cell? ⟨fb, fo + i, none⟩ = some (.int .i64 z) := (HL8.out.bw.cell (block_lt_of_cell hzc)).trans hzc
                 clear hown8 hgrow8 HR6 HL6 hvl)
              | (go_at_call 11; refine (FinB.out _ _ _ _ HL8.out HLs8.out).mono ?_; rintro e w9 ⟨rfl, h91, _⟩; have HZ := Lib.hid (h91 trivial); clear h91)
              | fail)
              go_roundw
              case rel => exact ⟨_, i + 1, yl + 1, rfl, by go_num, by go_num, by omega, by omega, HZ⟩
              case measure => simp [intOf]; omega
            · simp only [errV_not hk0] at FinB
              go_wp2_with (first
              | (go_at_call 10; refine HAp.out.mono ?_; rintro e w6 ⟨rfl, rv6, ev6, hL6, hls6, hp6⟩
                 obtain ⟨vs, hr6, hn6, h36⟩ := hls6.on (below_alloc w6 (.cells #[.slice xa m xc] 40))
                 have HL6 := Lib.hid (hL6.on (below_alloc w6 (.cells #[.slice xa m xc] 40)))
                 have HR6 := Lib.hid (And.intro hr6 (And.intro hn6 (And.intro h36 (hp6.ext (Ext.of_below _ (below_alloc w6 (.cells #[.slice xa m xc] 40)))))))
                 have hvl : vs.length ≤ 10000000 := by rw [hn6, HYL.out]; omega
                 clear hL6 hls6 hp6 hr6 hn6 h36)
              | (at_builtin; refine wpList_append_row _ rfl _ _ rfl w0.heap.size _ vs (.slice xa m xc) rfl HR6.out.1 w6.heap.size rfl (cell_of (World.alloc_heap_new' _ _) rfl) rfl hvl HL6.out.bw.size ?_
                 intro v8 w8 hown8 hgrow8
                 have HL8 := Lib.hid (HL6.out.grow HR6.out.1 hgrow8)
                 have HLs8 := Lib.hid (LsF.snoc HR6.out.1 HR6.out.2.1 HR6.out.2.2.1 HR6.out.2.2.2 hown8 hgrow8)
                 obtain ⟨la8, lc8, hv8, _⟩ := HLs8.out.slice
                 rw [List.length_append, List.length_singleton, HYL.out] at hv8
                 subst hv8
                 have zc : w8.cell? ⟨fb, fo + i, none⟩ = some (.int .i64 z) := (HL8.out.bw.cell (block_lt_of_cell hzc)).trans hzc
                 clear hown8 hgrow8 HR6 HL6 hvl)
              | (go_at_call 11; refine (FinB.out _ _ _ _ HL8.out HLs8.out).mono ?_; rintro e w9 ⟨rfl, _, h92⟩; have HZ := Lib.hid (h92 hk0); clear h92)
              | (go_at_call 9; refine HZ.out.2.mono ?_; rintro e w10 ⟨rfl, rfl⟩)
              | fail)
              go_roundw
              case rel => exact ⟨_, i + 1, sf, rfl, rfl, by go_num, by omega, by omega, HZ.out.1⟩
              case measure => simp [intOf]; omega
          · have hr2 : ((r : Int) == 1) = false := by simpa using (by omega : ¬ (r : Int) = 1)
            clear FinB
            go_wp2_with (first
            | (go_at_call 10; refine HAp.out.mono ?_; rintro e w6 ⟨rfl, rv6, ev6, hL6, hls6, hp6⟩
               obtain ⟨vs, hr6, hn6, h36⟩ := hls6.on (below_alloc w6 (.cells #[.slice xa m xc] 40))
               have HL6 := Lib.hid (hL6.on (below_alloc w6 (.cells #[.slice xa m xc] 40)))
               have HR6 := Lib.hid (And.intro hr6 (And.intro hn6 (And.intro h36 (hp6.ext (Ext.of_below _ (below_alloc w6 (.cells #[.slice xa m xc] 40)))))))
               have hvl : vs.length ≤ 10000000 := by rw [hn6, HYL.out]; omega
               clear hL6 hls6 hp6 hr6 hn6 h36)
            | (at_builtin; refine wpList_append_row _ rfl _ _ rfl w0.heap.size _ vs (.slice xa m xc) rfl HR6.out.1 w6.heap.size rfl (cell_of (World.alloc_heap_new' _ _) rfl) rfl hvl HL6.out.bw.size ?_
               intro v8 w8 hown8 hgrow8
               have HL8 := Lib.hid (HL6.out.grow HR6.out.1 hgrow8)
               have HLs8 := Lib.hid (LsF.snoc HR6.out.1 HR6.out.2.1 HR6.out.2.2.1 HR6.out.2.2.2 hown8 hgrow8)
               obtain ⟨la8, lc8, hv8, _⟩ := HLs8.out.slice
               rw [List.length_append, List.length_singleton, HYL.out] at hv8
               subst hv8
               have zc : w8.cell? ⟨fb, fo + i, none⟩ = some (.int .i64 z) := (HL8.out.bw.cell (block_lt_of_cell hzc)).trans hzc
               clear hown8 hgrow8 HR6 HL6 hvl)
            | fail)
            go_roundw
            case rel => exact ⟨_, i + 1, sf, rfl, rfl, by go_num, by omega, by omega, FinA.out _ _ _ _ HL8.out HLs8.out⟩
            case measure => simp [intOf]; omega
        · have hf2 : ¬ (i : Int) < (fn : Int) := by omega
          clear FinB
          go_wp2_with (first
          | (go_at_call 10; refine HAp.out.mono ?_; rintro e w6 ⟨rfl, rv6, ev6, hL6, hls6, hp6⟩
             obtain ⟨vs, hr6, hn6, h36⟩ := hls6.on (below_alloc w6 (.cells #[.slice xa m xc] 40))
             have HL6 := Lib.hid (hL6.on (below_alloc w6 (.cells #[.slice xa m xc] 40)))
             have HR6 := Lib.hid (And.intro hr6 (And.intro hn6 (And.intro h36 (hp6.ext (Ext.of_below _ (below_alloc w6 (.cells #[.slice xa m xc] 40)))))))
             have hvl : vs.length ≤ 10000000 := by rw [hn6, HYL.out]; omega
             clear hL6 hls6 hp6 hr6 hn6 h36)
          | (at_builtin; refine wpList_append_row _ rfl _ _ rfl w0.heap.size _ vs (.slice xa m xc) rfl HR6.out.1 w6.heap.size rfl (cell_of (World.alloc_heap_new' _ _) rfl) rfl hvl HL6.out.bw.size ?_
             intro v8 w8 hown8 hgrow8
             have HL8 := Lib.hid (HL6.out.grow HR6.out.1 hgrow8)
             have HLs8 := Lib.hid (LsF.snoc HR6.out.1 HR6.out.2.1 HR6.out.2.2.1 HR6.out.2.2.2 hown8 hgrow8)
             obtain ⟨la8, lc8, hv8, _⟩ := HLs8.out.slice
             rw [List.length_append, List.length_singleton, HYL.out] at hv8
             subst hv8
             clear hown8 hgrow8 HR6 HL6 hvl)
          | fail)
          go_roundw
          case rel => exact ⟨_, i + 1, sf, rfl, rfl, by go_num, by omega, by omega, FinA.out _ _ _ _ HL8.out HLs8.out⟩
          case measure => simp [intOf]; omega
    · have hdim := HS.out.dim
      have hKK := HS.out.K
      have HTell := Lib.hid HS.out.tell
      have HYb : Hid (∀ ys ∈ yss, ∀ x ∈ ys, x < 256) := fun ys hys => (HLI.out.jn.jr.ok.pays ys (by rw [HS.out.pss]; exact hys)).2.2
      have HLY : Hid (ListIn wr lla yss) := by
        obtain ⟨la9, lc9, hv9, hl9, _⟩ := HLs.out.slice
        rw [HYL.out] at hv9
        simp only [Value.slice.injEq] at hv9
        rw [hv9.1]
        exact hl9
      have HRs : Hid (∀ V a6 c6, Below wr.heap.size wr V → IntsIn V a6 cs → (∀ b o, a6 = some ⟨b, o, none⟩ → wr.heap.size ≤ b) → Calls Try.prog 12 #[.pointer (some ⟨w0.heap.size + 2, 0, none⟩), .slice a6 cn c6] V fun e w' => e = .returned (.tuple #[]) ∧ DevIn w' (w0.heap.size + 2) w0.heap.size (w0.heap.size + 1) (restartD d cs) K ∧ ArAt w' bx (arN 64) ∧ ListIn w' lla yss ∧ Below w0.heap.size w0 w') := fun V a6 c6 hV hi6 hl6 => by
        have hLV := HLI.out.on hV
        have hpl := hLV.jn.dev.lts.1
        have hpw := HLI.out.jn.dev.lts.1
        refine (restart_ hLV.jn.dev a6 cs cn c6 HCi2.out.2.1 hi6 (fun b o e => by have := hl6 b o e; omega) (by have := HCi2.out.2.2.2; have := HCi2.out.2.1; omega)).mono fun e w' ⟨h1, h2, h3⟩ => ⟨h1, h2, hLV.jn.area hLV.ar (Ext.of_fd q rv2 ev2 h3), ?_, hLV.bw.trans (h3.below hLV.bw.size (by omega) (by omega) (by omega))⟩
        have hx3 : Ext (fun k => k = w0.heap.size + 2 ∨ k = w0.heap.size ∨ k = w0.heap.size + 1) (fun k => k = w0.heap.size + 2 ∨ k = w0.heap.size ∨ k = w0.heap.size + 1) V w' := ⟨h3.os, h3.tape, h3.output, h3.size, fun k hk hn => h3.block k hk (fun e => hn (.inl e)) (fun e => hn (.inr (.inl e))) (fun e => hn (.inr (.inr e))), fun _ h => .inl h⟩
        exact (((HLY.out.on hV).free hLV.jn.dev (M := fun k => k = w0.heap.size + 2 ∨ k = w0.heap.size ∨ k = w0.heap.size + 1) (fun k hk => by rcases hk with h | h | h <;> simp [h])).ext hx3).list
      obtain ⟨t1, t2, t3, t4⟩ := HTell.out cs
      have hrest : Rest (restartD d cs) (arN 64) := ⟨t1, rfl, rfl, rfl, by unfold inJ; rw [t2, t3]; decide, by rw [t2, t3]; decide⟩
      have HOp : Hid (∀ V, DevIn V (w0.heap.size + 2) w0.heap.size (w0.heap.size + 1) (restartD d cs) K → Below w0.heap.size w0 V → ListIn V lla yss → Calls Try.prog 7 #[.pointer (some ⟨w0.heap.size + 2, 0, none⟩), .agg #[.int .i64 0, .int .i64 0, .int .i64 64], .int .u64 7] V fun e w' => ∃ q la lc, e = .returned (.tuple #[.pointer (some ⟨q, 0, none⟩), .slice la (openJ (restartD d cs) (arN 64) 7).pss.length lc, .nilIface]) ∧ SfEnd w0 la lla (openJ (restartD d cs) (arN 64) 7).pss yss w') := fun V g1 g2 g3 => sf_open g1 hrest (by omega) g2 g3 HYb.out (by have := HYL.out; omega)
      have HBw := Lib.hid HLI.out.bw
      obtain ⟨l, hl⟩ : ∃ l, l = (openJ (restartD d cs) (arN 64) 7).pss := ⟨_, rfl⟩
      rw [← hl] at HOp t4
      obtain ⟨ll, hll⟩ : ∃ ll, l.length = ll := ⟨_, rfl⟩
      rw [hll] at HOp t4
      have HLL := Lib.hid hll
      have hge : ¬ (ll : Int) < (sf : Int) := by omega
      have hex : (¬ (i : Int) < (n1 : Int)) ∨ ((i : Int) < (n1 : Int) ∧ ¬ (i : Int) < 20) ∨ ((i : Int) < (n1 : Int) ∧ (i : Int) < 20 ∧ d.crashed = true) := by
        by_cases h1 : i < n1
        · by_cases h2 : i < 20
          · refine .inr (.inr ⟨by omega, by omega, ?_⟩)
            cases hcc : d.crashed with
            | true => rfl
            | false => exact absurd ⟨h1, h2, hcc⟩ hgo
          · exact .inr (.inl ⟨by omega, by omega⟩)
        · exact .inl (by omega)
      clear hgo hll hl hrest t1 t2 t3 t4 HTell HS HLs HLI HLY HYb hdim HT2 HFi2 HFn
      generalize restartD d cs = d2 at *
      generalize hcd : d.crashed = cr at *
      rcases hex with hx1 | ⟨hx1, hx2⟩ | ⟨hx1, hx2, rfl⟩
      all_goals
        clear hcd
        go_wp2_with (first
          | (go_at_call 9; refine HCr.out.mono ?_; rintro e w4 ⟨rfl, rfl⟩)
          | (at_builtin; refine wpList_append_ints _ rfl _ _ rfl rfl ca cs cn cc rfl HCi2.out.2.1 HCi2.out.2.2.1 (HCi2.out.1.on HBw.out) HCi2.out.2.2.2 ?_
             intro a6 c6 w6 hi6 hl6 hb6
             have H6 := Lib.hid (HRs.out _ a6 c6 hb6 hi6 hl6)
             clear hi6 hl6 hb6)
          | (go_at_call 12; refine H6.out.mono ?_; rintro e w5 ⟨rfl, h51, h52, h53, h54⟩
             obtain ⟨y0, y1, y2⟩ := h52.cells
             have HO5 := Lib.hid (HOp.out _ h51 h54 h53)
             clear h51 h52 h53 h54)
          | (go_at_call 7; refine HO5.out.mono ?_; rintro e w7 ⟨q7, la7, lc7, rfl, hend⟩
             have HEnd := Lib.hid hend
             clear hend)
          | fail)
        have HFinal : Hid (∀ V, Below w7.heap.size w7 V → Below w.heap.size w V) := fun V hV => HBq.out.trans ((below_step HEnd.out.bw hV).mono HBq.out.size)
        clear HO5 H6 HRs HOp y0 y1 y2
        go_loopw [23] (fun iv wr2 => ∃ j : Nat, iv = .int .i64 j ∧ j ≤ ll ∧ Hid (Below w7.heap.size w7 wr2)) (fun iv _ => ll - (intOf iv).toNat)
        case atStart => exact ⟨0, rfl, Nat.zero_le _, Below.refl _ _⟩
        case round =>
          obtain ⟨j, rfl, hjl, HB8⟩ := hrel
          rename World => wr3
          by_cases hlm : j < ll
          · have hlm2 : (j : Int) < (ll : Int) := by omega
            have hj0 : (0 : Int) ≤ (j : Int) := by omega
            have HIl : Hid (j < l.length) := by have := HLL.out; exact (by omega : j < l.length)
            by_cases hln : j < yl
            · have hln3 : decide (yl ≤ j) = false := decide_eq_false (by omega)
              have hln4 : (j : Int) < (yl : Int) := by omega
              have HIn : Hid (j < yss.length) := by have := HYL.out; exact (by omega : j < yss.length)
              obtain ⟨b1, o1, rfl, a4, c4, h1, h1b⟩ := (HEnd.out.inL.on HB8.out) j HIl.out
              obtain ⟨b2, o2, hla2, a5, c5, h2, h2b⟩ := (HEnd.out.inY.on HB8.out) j HIn.out
              subst hla2
              have cv1 : ∀ t, (convert 40 9 (.slice a4 (l.getD j []).length c4)).run Try.prog (wr3.drewN t) = .ok (.string (bs (l.getD j []))) (wr3.drewN t) := fun t => conv_ _ a4 _ c4 _ rfl (h1b.on (below_drewN (Below.refl _ _) t))
              have cv2 : ∀ t, (convert 40 9 (.slice a5 (yss.getD j []).length c5)).run Try.prog (wr3.drewN t) = .ok (.string (bs (yss.getD j []))) (wr3.drewN t) := fun t => conv_ _ a5 _ c5 _ rfl (h2b.on (below_drewN (Below.refl _ _) t))
              have hm1 : ∀ (L : List (List Nat)), j < L.length → L.getD j [] ∈ L := fun L hL => by rw [List.getD_eq_getElem?_getD, List.getElem?_eq_getElem hL]; exact List.getElem_mem hL
              have hbq := bs_beq (HEnd.out.lb _ (hm1 l HIl.out)) (HEnd.out.yb _ (hm1 yss HIn.out))
              by_cases hxy : l.getD j [] = yss.getD j []
              · rw [← hxy] at h2 cv2
                generalize (l.getD j []).length = al at *
                generalize bs (l.getD j []) = sy at *
                clear h1b h2b hbq hm1 hxy
                go_wp2_with fail
                go_big_quiet (fail)
                have HB9 := Lib.hid (below_drewN HB8.out nq)
                generalize wr3.drewN nq = W9 at *
                go_wp2_with fail
                go_roundw
                case rel => exact ⟨j + 1, by go_num, by omega, HB9⟩
                case measure => simp [intOf]; omega
              · have hTr := chB_true HIl.out (.inr hxy)
                have HCh : Hid (∀ V, Below w7.heap.size w7 V → Calls Try.prog 13 #[.pointer (some ⟨w0.heap.size + 2, 0, none⟩), .slice (some ⟨b2, o2, none⟩) yl llc] V fun e w' => e = .returned (.bool true) ∧ Below V.heap.size V w') := fun V hV => by
                  have q1 := HEnd.out.ch V hV llc
                  rw [hTr, HYL.out] at q1
                  exact q1
                rw [decide_eq_false hxy] at hbq
                generalize (l.getD j []).length = al at *
                generalize bs (l.getD j []) = sy at *
                generalize (yss.getD j []).length = zl at *
                generalize bs (yss.getD j []) = sz2 at *
                have hbq2 : (sy.toList != sz2.toList) = true := by simp [bne, hbq]
                clear h1b h2b hm1 hxy hTr
                go_wp2_with fail
                go_big_quiet (fail)
                have HB9 := Lib.hid (below_drewN HB8.out nq)
                generalize wr3.drewN nq = W9 at *
                go_wp2_with (first
                  | (go_at_call 13; refine (HCh.out _ HB9.out).mono ?_; rintro e w10 ⟨rfl, hb10⟩; have HB10 := Lib.hid (below_step HB9.out hb10); clear hb10)
                  | (go_at_call 14; refine (HSu.out _).mono ?_; rintro e w11 ⟨rfl, hb11⟩; have HB11 := Lib.hid (below_step HB10.out hb11); clear hb11)
                  | fail)
                go_ret
                exact ⟨rfl, HFinal.out _ HB11.out⟩
            · have hln3 : decide (yl ≤ j) = true := decide_eq_true (by omega)
              have hln4 : (yl : Int) ≤ (j : Int) := by omega
              have hTr : chB l yss = true := chB_true HIl.out (.inl (by have := HYL.out; omega))
              have HCh : Hid (∀ V, Below w7.heap.size w7 V → Calls Try.prog 13 #[.pointer (some ⟨w0.heap.size + 2, 0, none⟩), .slice lla yl llc] V fun e w' => e = .returned (.bool true) ∧ Below V.heap.size V w') := fun V hV => by
                have q1 := HEnd.out.ch V hV llc
                rw [hTr, HYL.out] at q1
                exact q1
              clear hTr
              go_wp2_with fail
              go_big_quiet (fail)
              have HB9 := Lib.hid (below_drewN HB8.out nq)
              generalize wr3.drewN nq = W9 at *
              go_wp2_with (first
                | (go_at_call 13; refine (HCh.out _ HB9.out).mono ?_; rintro e w10 ⟨rfl, hb10⟩; have HB10 := Lib.hid (below_step HB9.out hb10); clear hb10)
                | (go_at_call 14; refine (HSu.out _).mono ?_; rintro e w11 ⟨rfl, hb11⟩; have HB11 := Lib.hid (below_step HB10.out hb11); clear hb11)
                | fail)
              go_ret
              exact ⟨rfl, HFinal.out _ HB11.out⟩
          · have hlm2 : ¬ (j : Int) < (ll : Int) := by omega
            go_wp2_with (first
              | (go_at_call 14; refine (HSu.out _).mono ?_; rintro e w11 ⟨rfl, hb11⟩; have HB11 := Lib.hid (below_step HB8.out hb11); clear hb11)
              | fail)
            go_ret
            exact ⟨rfl, HFinal.out _ HB11.out⟩
end Go.Proofs.Ytjnhcanohefjiaa
