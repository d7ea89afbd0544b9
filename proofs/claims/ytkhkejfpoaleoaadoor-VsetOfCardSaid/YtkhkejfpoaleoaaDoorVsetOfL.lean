/- Sets of any lists have what the document's have, whether they are the same, and which two they part. Conditions: none: every two rooms, every two slices of numbers (of more than two hundred numbers the law asks only that the program has sets at all); the library's table of de Bruijn holds what the program's text lays into it, and the card ties that to the text. -/
import Derived.Test.YtkhkejfpoaleoaaDoorVsetLaw
import Derived.Test.YtkhkejfpoaleoaaDoorVsetTwo
import Derived.Test.YtkhkejfpoaleoaaDoorTie
import Derived.Test.YtkhkejfpoaleoaaDoorCards
import Derived.SevenTiedAt
import Derived.Deep.Slices
import Derived.Deep.RegionHeld3
import Derived.Carry
import Derived.Deep.Cut
import Derived.Deep.CutRange
namespace Go.Proofs.YtkhkejfpoaleoaaDoor.vsetOf
open Go.ChangeShapes Go.WideShapes Go.ChangeAt Go.RowKit VsetPure
/-- What the law is about: the world in which it begins, its first variable's block, the two lists, the rooms asked for. -/
structure Ev where
  w : World
  N : Nat
  (a b : Option Addr)
  (la lb : List Int)
  (x0 x1 : Int)
/-- What stands from the first on. -/
def Base (E : Ev) (W : World) : Prop :=
  TabAt 0 Lib.deBruijn64tab W ∧ ReadsL (encInt .i64) W.heap.size W E.a E.la ∧ ReadsL (encInt .i64) W.heap.size W E.b E.lb ∧ TwoAt E.N W (.int .i64 E.x0) (.int .i64 E.x1) ∧ Below E.w.heap.size E.w W
theorem Base.keep {E : Ev} {W W' : World} (h : Base E W) (hb : Below W.heap.size W W') : Base E W' := by
  obtain ⟨h3, h4, h5, h6, h7⟩ := h
  exact ⟨tab_keep h3 hb, ReadsL.over h4 hb (Nat.le_refl _), ReadsL.over h5 hb (Nat.le_refl _), h6.on hb h6.lt, h7.trans (hb.mono h7.size)⟩
theorem base_keep {w : World} {a b : Option Addr} {la lb : List Int} {x0 x1 : Int} {N : Nat} {W W' : World} (h : Hid (Base ⟨w, N, a, b, la, lb, x0, x1⟩ W)) (hb : Below W.heap.size W W') :
    W'.cell? ⟨N, 0, none⟩ = some (.int .i64 x0) ∧ W'.cell? ⟨N, 1, none⟩ = some (.int .i64 x1) ∧ Hid (Base ⟨w, N, a, b, la, lb, x0, x1⟩ W') :=
  have hk := h.out.keep hb
  ⟨hk.2.2.2.1.1, hk.2.2.2.1.2.1, Lib.hid hk⟩
theorem base_a {w : World} {a b : Option Addr} {la lb : List Int} {x0 x1 : Int} {N : Nat} {W : World} (h : Hid (Base ⟨w, N, a, b, la, lb, x0, x1⟩ W)) : ReadsL (encInt .i64) W.heap.size W a la := h.out.2.1
theorem base_b {w : World} {a b : Option Addr} {la lb : List Int} {x0 x1 : Int} {N : Nat} {W : World} (h : Hid (Base ⟨w, N, a, b, la, lb, x0, x1⟩ W)) : ReadsL (encInt .i64) W.heap.size W b lb := h.out.2.2.1
/-- What stands behind the two sets. -/
def Stand (E : Ev) (bs gs bt gt : Nat) (W : World) : Prop :=
  SetAt bs gs W (roomN E.x0) (ofP (roomN E.x0) E.la) ∧ SetAt bt gt W (roomN E.x1) (ofP (roomN E.x1) E.lb) ∧ Base E W
theorem Stand.keep {E : Ev} {bs gs bt gt : Nat} {W W' : World} (h : Stand E bs gs bt gt W) (hb : Below W.heap.size W W') : Stand E bs gs bt gt W' := ⟨h.1.keep hb, h.2.1.keep hb, h.2.2.keep hb⟩
theorem stand_keep {w : World} {a b : Option Addr} {la lb : List Int} {x0 x1 : Int} {N bs gs bt gt : Nat} {W W' : World} (h : Hid (Stand ⟨w, N, a, b, la, lb, x0, x1⟩ bs gs bt gt W)) (hc : Chain W.heap.size W W') :
    W'.cell? ⟨N, 0, none⟩ = some (.int .i64 x0) ∧ W'.cell? ⟨N, 1, none⟩ = some (.int .i64 x1) ∧ Hid (Stand ⟨w, N, a, b, la, lb, x0, x1⟩ bs gs bt gt W') :=
  have hk := h.out.keep hc.1
  ⟨hk.2.2.2.2.2.1.1, hk.2.2.2.2.2.1.2.1, Lib.hid hk⟩
theorem stand_a {w : World} {a b : Option Addr} {la lb : List Int} {x0 x1 : Int} {N bs gs bt gt : Nat} {W : World} (h : Hid (Stand ⟨w, N, a, b, la, lb, x0, x1⟩ bs gs bt gt W)) : ReadsL (encInt .i64) W.heap.size W a la := h.out.2.2.2.1
theorem stand_b {w : World} {a b : Option Addr} {la lb : List Int} {x0 x1 : Int} {N bs gs bt gt : Nat} {W : World} (h : Hid (Stand ⟨w, N, a, b, la, lb, x0, x1⟩ bs gs bt gt W)) : ReadsL (encInt .i64) W.heap.size W b lb := h.out.2.2.2.2.1
theorem ch_below {M : Nat} {w W W' : World} (h : Chain M w W) (hb : Below W.heap.size W W') : Chain M w W' := ⟨h.1.trans (hb.mono h.2), Nat.le_trans h.2 hb.size⟩
/-- A block that lies on. -/
def Kept (h : Nat) (V W : World) : Prop := h < W.heap.size ∧ W.heap[h]? = V.heap[h]?
theorem kp_start {h : Nat} {V : World} (hl : h < V.heap.size) : Kept h V V := ⟨hl, rfl⟩
theorem kp_below {h : Nat} {V W W' : World} (k : Kept h V W) (hb : Below W.heap.size W W') : Kept h V W' := ⟨Nat.lt_of_lt_of_le k.1 hb.size, (hb.block h k.1).trans k.2⟩
theorem kp_alloc {h : Nat} {V W : World} {o : Obj} (k : Kept h V W) : Kept h V (W.alloc o) := kp_below k ((Below.refl _ _).alloc (Nat.le_refl _) o)
theorem kp_drew {h : Nat} {V W : World} (k : Kept h V W) : Kept h V W.drew := kp_below k (below_drewN (Below.refl _ _) 1)
theorem kp_set {h b i : Nat} {V W : World} {v : Value} (k : Kept h V W) (hb : b ≠ h) : Kept h V (W.setCell ⟨b, i, none⟩ v) := ⟨by simpa using k.1, (Below.heap_setCell _ _ _ _ (fun e => hb e.symm)).trans k.2⟩
theorem row_kept {h : Nat} {V W : World} {L : List Value} (hr : RowIs h V L) (k : Kept h V W) : RowIs h W L :=
  fun i hi => ⟨(World.cell?_of_block (a := ⟨h, i, none⟩) k.2).trans (hr i hi).1, (World.frozen?_of_block (a := ⟨h, i, none⟩) k.2).trans (hr i hi).2⟩
theorem two_below {G : Prop} {b : Nat} {W W' : World} {u v : Value} (hb : Below W.heap.size W W') (h0 : W.cell? ⟨b, 0, none⟩ = some u) (h1 : W.cell? ⟨b, 1, none⟩ = some v) (h2 : W.frozen? ⟨b, 0, none⟩ = false) (h3 : W.frozen? ⟨b, 1, none⟩ = false)
    (f : W'.cell? ⟨b, 0, none⟩ = some u → W'.cell? ⟨b, 1, none⟩ = some v → W'.frozen? ⟨b, 0, none⟩ = false → W'.frozen? ⟨b, 1, none⟩ = false → b < W'.heap.size → G) : G := by
  have t : TwoAt b W u v := ⟨h0, h1, h2, h3⟩
  have t' := t.on hb t.lt
  exact f t'.1 t'.2.1 t'.2.2.1 t'.2.2.2 t'.lt
theorem tw_base {b : Nat} {W : World} {u v : Value} (h0 : W.cell? ⟨b, 0, none⟩ = some u) (h1 : W.cell? ⟨b, 1, none⟩ = some v) (h2 : W.frozen? ⟨b, 0, none⟩ = false) (h3 : W.frozen? ⟨b, 1, none⟩ = false) : TwoAt b W u v := ⟨h0, h1, h2, h3⟩
theorem tw_new {b : Nat} {W : World} {u v : Value} {T : TypeId} (h : b = W.heap.size) : TwoAt b (W.alloc (.cells #[u, v] T)) u v := by subst h; exact TwoAt.new W u v T
theorem tw_alloc {b : Nat} {W : World} {u v : Value} {o : Obj} (h : TwoAt b W u v) : TwoAt b (W.alloc o) u v := h.on ((Below.refl _ _).alloc (Nat.le_refl _) o) h.lt
theorem tw_set {b : Nat} {W : World} {u v : Value} (h : TwoAt b W (.int .i64 0) (.slice none 0 0)) : TwoAt b ((W.setCell ⟨b, 0, none⟩ u).setCell ⟨b, 1, none⟩ v) u v := h.set u v
theorem tw_past {b c : Nat} {W : World} {u v u' v' : Value} (h : TwoAt b W u v) (hn : b ≠ c) : TwoAt b ((W.setCell ⟨c, 0, none⟩ u').setCell ⟨c, 1, none⟩ v') u v :=
  two_past h (grown_trans (grown_cell W c 0 u') (grown_cell _ c 1 v')) (fun e => hn (Option.some.inj e))
/-- What stands behind the document's two sets. -/
def Stand2 (E : Ev) (bs gs bt gt X Y h0 h1 : Nat) (W : World) : Prop :=
  Stand E bs gs bt gt W ∧ TwoAt X W (.int .i64 (roomN E.x0 : Int)) (.slice (some ⟨h0, 0, none⟩) (roomN E.x0) (roomN E.x0)) ∧ TwoAt Y W (.int .i64 (roomN E.x1 : Int)) (.slice (some ⟨h1, 0, none⟩) (roomN E.x1) (roomN E.x1)) ∧
  RefAt W (some ⟨h0, 0, none⟩) (roomN E.x0) (ofP (roomN E.x0) E.la) ∧ RefAt W (some ⟨h1, 0, none⟩) (roomN E.x1) (ofP (roomN E.x1) E.lb)
theorem drawn_below {w w' : World} (h : ∃ k, w' = w.drewN k) : Below w.heap.size w w' := by obtain ⟨k, rfl⟩ := h; exact below_drewN (Below.refl _ _) k
theorem Stand2.keep {E : Ev} {bs gs bt gt X Y h0 h1 : Nat} {W W' : World} (h : Stand2 E bs gs bt gt X Y h0 h1 W) (hb : Below W.heap.size W W') : Stand2 E bs gs bt gt X Y h0 h1 W' :=
  ⟨h.1.keep hb, h.2.1.on hb h.2.1.lt, h.2.2.1.on hb h.2.2.1.lt, h.2.2.2.1.keep hb, h.2.2.2.2.keep hb⟩
theorem stand2_keep {w : World} {a b : Option Addr} {la lb : List Int} {x0 x1 : Int} {N bs gs bt gt X Y h0 h1 : Nat} {W W' : World} (h : Hid (Stand2 ⟨w, N, a, b, la, lb, x0, x1⟩ bs gs bt gt X Y h0 h1 W)) (hb : Below W.heap.size W W') :
    W'.cell? ⟨X, 0, none⟩ = some (.int .i64 (roomN x0 : Int)) ∧ W'.cell? ⟨X, 1, none⟩ = some (.slice (some ⟨h0, 0, none⟩) (roomN x0) (roomN x0)) ∧ W'.cell? ⟨Y, 0, none⟩ = some (.int .i64 (roomN x1 : Int)) ∧ W'.cell? ⟨Y, 1, none⟩ = some (.slice (some ⟨h1, 0, none⟩) (roomN x1) (roomN x1)) ∧ Hid (Stand2 ⟨w, N, a, b, la, lb, x0, x1⟩ bs gs bt gt X Y h0 h1 W') :=
  have hk := h.out.keep hb
  ⟨hk.2.1.1, hk.2.1.2.1, hk.2.2.1.1, hk.2.2.1.2.1, Lib.hid hk⟩
theorem stand2_x {w : World} {a b : Option Addr} {la lb : List Int} {x0 x1 : Int} {N bs gs bt gt X Y h0 h1 : Nat} {W : World} (h : Hid (Stand2 ⟨w, N, a, b, la, lb, x0, x1⟩ bs gs bt gt X Y h0 h1 W)) : RefAt W (some ⟨h0, 0, none⟩) (roomN x0) (ofP (roomN x0) la) := h.out.2.2.2.1
theorem stand2_bel {w : World} {a b : Option Addr} {la lb : List Int} {x0 x1 : Int} {N bs gs bt gt X Y h0 h1 : Nat} {W : World} (h : Hid (Stand2 ⟨w, N, a, b, la, lb, x0, x1⟩ bs gs bt gt X Y h0 h1 W)) : Below w.heap.size w W := h.out.1.2.2.2.2.2.2
theorem stand2_tab {w : World} {a b : Option Addr} {la lb : List Int} {x0 x1 : Int} {N bs gs bt gt X Y h0 h1 : Nat} {W : World} (h : Hid (Stand2 ⟨w, N, a, b, la, lb, x0, x1⟩ bs gs bt gt X Y h0 h1 W)) : TabAt 0 Lib.deBruijn64tab W := h.out.1.2.2.1
theorem stand2_s {w : World} {a b : Option Addr} {la lb : List Int} {x0 x1 : Int} {N bs gs bt gt X Y h0 h1 : Nat} {W : World} (h : Hid (Stand2 ⟨w, N, a, b, la, lb, x0, x1⟩ bs gs bt gt X Y h0 h1 W)) : Pair bs gs (roomN x0) (ofP (roomN x0) la) (some ⟨h0, 0, none⟩) W := ⟨h.out.1.1, h.out.2.2.2.1, h.out.1.2.2.1⟩
theorem stand2_t {w : World} {a b : Option Addr} {la lb : List Int} {x0 x1 : Int} {N bs gs bt gt X Y h0 h1 : Nat} {W : World} (h : Hid (Stand2 ⟨w, N, a, b, la, lb, x0, x1⟩ bs gs bt gt X Y h0 h1 W)) : Pair bt gt (roomN x1) (ofP (roomN x1) lb) (some ⟨h1, 0, none⟩) W := ⟨h.out.1.2.1, h.out.2.2.2.2, h.out.1.2.2.1⟩
set_option maxRecDepth 100000 in
set_option maxHeartbeats 4000000 in
theorem walk_list (x0 x1 : Int) (h00 : -9223372036854775808 ≤ x0) (h01 : x0 ≤ 9223372036854775807) (h10 : -9223372036854775808 ≤ x1) (h11 : x1 ≤ 9223372036854775807) (a : Option Addr) (ca : Nat) (la : List Int) (b : Option Addr) (cb : Nat) (lb : List Int) (w : World)
    (hla : ReadsL (encInt .i64) w.heap.size w a la) (hlb : ReadsL (encInt .i64) w.heap.size w b lb) (hma : la.length ≤ maxLen) (hmb : lb.length ≤ maxLen) (hT : TabAt 0 Lib.deBruijn64tab w) :
    Calls Tryd.prog 4 #[.agg #[.int .i64 x0, .int .i64 x1], .slice a la.length ca, .slice b lb.length cb] w fun e w' => e = .returned (.bool true) ∧ Below w.heap.size w w' := by
  have HLA := Lib.hid hla
  have HLB := Lib.hid hlb
  have HT := Lib.hid hT
  have HMA := Lib.hid hma
  have HMB := Lib.hid hmb
  have HB0 : Hid (∀ o, Below w.heap.size w (w.alloc o)) := Lib.hid (fun o => (Below.refl _ w).alloc (Nat.le_refl _) o)
  clear hla hlb hT hma hmb
  by_cases h200 : 200 < la.length
  · have hm : la.length ≤ 9223372036854775807 := by have := HMA.out; unfold maxLen at this; omega
    go_enter Tryd.func4, Tryd.ntmps4
    go_wp2_with fail
    refine (awake_any _ (tab_keep HT.out (HB0.out _))).mono ?_
    rintro e w1 ⟨rfl, hb1⟩
    have HB : Hid (Below w.heap.size w w1) := Lib.hid ((HB0.out _).trans (hb1.mono (HB0.out _).size))
    clear hb1
    go_wp2
    go_ret
    exact ⟨rfl, HB.out⟩
  by_cases h201 : 200 < lb.length
  · have hm : lb.length ≤ 9223372036854775807 := by have := HMB.out; unfold maxLen at this; omega
    have hla : la.length ≤ 200 := by omega
    go_enter Tryd.func4, Tryd.ntmps4
    go_wp2_with fail
    refine (awake_any _ (tab_keep HT.out (HB0.out _))).mono ?_
    rintro e w1 ⟨rfl, hb1⟩
    have HB : Hid (Below w.heap.size w w1) := Lib.hid ((HB0.out _).trans (hb1.mono (HB0.out _).size))
    clear hb1
    go_wp2
    go_ret
    exact ⟨rfl, HB.out⟩
  have hla : la.length ≤ 200 := by omega
  have hlb : lb.length ≤ 200 := by omega
  clear h200 h201
  go_enter Tryd.func4, Tryd.ntmps4
  go_upto_region 3 with fail
  have HS0 : Hid (Base ⟨w, w.heap.size, a, b, la, lb, x0, x1⟩ (w.alloc (.cells #[.int .i64 x0, .int .i64 x1] 38))) := Lib.hid
    ⟨tab_keep HT.out (HB0.out _), ReadsL.over HLA.out (HB0.out _) (Nat.le_refl _), ReadsL.over HLB.out (HB0.out _) (Nat.le_refl _), TwoAt.new _ _ _ _, HB0.out _⟩
  generalize (w.alloc (.cells #[.int .i64 x0, .int .i64 x1] 38)) = W0 at *
  have c0 := HS0.out.2.2.2.1.1
  have c1 := HS0.out.2.2.2.1.2.1
  clear HLA HLB HT HMA HMB HB0
  go_region_held3 (fun W => W.cell? ⟨w.heap.size, 0, none⟩ = some (.int .i64 x0) ∧ W.cell? ⟨w.heap.size, 1, none⟩ = some (.int .i64 x1) ∧ Hid (Base ⟨w, w.heap.size, a, b, la, lb, x0, x1⟩ W))
    (first
      | exact base_keep HS0 ((Below.refl _ _).drew)
      | (go_split_ands; exact base_keep (by assumption) hb2)
      | (go_split_ands; exact base_keep (by assumption) hb1)
      | go_keep)
    (first
      | (go_at_call_of 18 x0; go_split_ands; refine (of_any x0 h00 h01 a ca la _ (base_a (by assumption)) (by omega)).mono ?_; rintro e w1 ⟨rfl, hb1, hs1⟩)
      | (go_at_call_of 18 x1; go_split_ands; refine (of_any x1 h10 h11 b cb lb _ (base_b (by assumption)) (by omega)).mono ?_; rintro e w2 ⟨rfl, hb2, hs2⟩))
  have HSt : Hid (Stand ⟨w, w.heap.size, a, b, la, lb, x0, x1⟩ (W0.heap.size + 1) W0.heap.size (w1.heap.size + 1) w1.heap.size w2) := Lib.hid
    ⟨hs1.keep hb2, hs2, ((by assumption : _ ∧ _ ∧ Hid (Base ⟨w, w.heap.size, a, b, la, lb, x0, x1⟩ w2)).2.2).out⟩
  clear hs1 hb1 hs2 hb2 HS0 c0 c1
  go_upto_region 4 with fail
  generalize W0.heap.size = gs at *
  generalize w1.heap.size = gt at *
  go_cut [9, 10] from 14 (fun s t wx => ∃ X Y h0 h1, s = .pointer (some ⟨X, 0, none⟩) ∧ t = .pointer (some ⟨Y, 0, none⟩) ∧ Hid (Stand2 ⟨w, w.heap.size, a, b, la, lb, x0, x1⟩ (gs + 1) gs (gt + 1) gt X Y h0 h1 wx))
  case first =>
    have s0 := HSt.out.2.2.2.2.2.1.1
    have s1 := HSt.out.2.2.2.2.2.1.2.1
    go_region_held3 (fun W => W.cell? ⟨w.heap.size, 0, none⟩ = some (.int .i64 x0) ∧ W.cell? ⟨w.heap.size, 1, none⟩ = some (.int .i64 x1) ∧ Hid (Stand ⟨w, w.heap.size, a, b, la, lb, x0, x1⟩ (gs + 1) gs (gt + 1) gt W))
      (first
        | exact stand_keep HSt (by repeat (first | assumption | exact ch_start _ | apply ch_alloc | apply ch_drew | (refine ch_set ?_ (by first | omega | (simp <;> omega)))))
        | go_keep)
      (first
        | (go_at_call_of 19 x0; go_split_ands; refine (ofRef_any x0 a ca la _ (stand_a (by assumption)) (by omega)).mono ?_; rintro e v1 ⟨h0, rfl, ⟨g0, g1, hr0⟩, hc1⟩; have HR0 := Lib.hid hr0; (try simp at g0); have hch1 : Chain w2.heap.size w2 v1 := ch_below (by repeat (first | assumption | exact ch_start _ | apply ch_alloc | apply ch_drew | (refine ch_set ?_ (by first | omega | (simp <;> omega))))) hc1; have hz1 := hch1.2; (try (refine two_below (b := w2.heap.size) (u := .int .i64 0) (v := .slice none 0 0) hc1 ?_ ?_ ?_ ?_ ?_; (iterate 4 (focus (go_simp; done))); intro z0 z1 z2 z3 z4)); (try (refine two_below (b := w2.heap.size + 1) (u := .int .i64 0) (v := .slice none 0 0) hc1 ?_ ?_ ?_ ?_ ?_; (iterate 4 (focus (go_simp; done))); intro z0 z1 z2 z3 z4)); clear hr0)
        | (go_at_call_of 19 x1; go_split_ands; refine (ofRef_any x1 b cb lb _ (stand_b (by assumption)) (by omega)).mono ?_; rintro e v2 ⟨h1, rfl, ⟨g2, g3, hr1⟩, hc2⟩; have HR1 := Lib.hid hr1; (try simp at g2); have hch2 : Chain w2.heap.size w2 v2 := ch_below (by repeat (first | assumption | exact ch_start _ | apply ch_alloc | apply ch_drew | (refine ch_set ?_ (by first | omega | (simp <;> omega))))) hc2; have hz2 := hch2.2; have hk0 : Kept h0 v1 v2 := kp_below (by repeat (first | assumption | exact kp_start (by omega) | apply kp_alloc | apply kp_drew | (refine kp_set ?_ (by first | omega | (simp <;> omega))))) hc2; (try (refine two_below (b := w2.heap.size) (u := .int .i64 0) (v := .slice none 0 0) hc2 ?_ ?_ ?_ ?_ ?_; (iterate 4 (focus (go_simp; done))); intro z0 z1 z2 z3 z4)); (try (refine two_below (b := w2.heap.size + 1) (u := .int .i64 0) (v := .slice none 0 0) hc2 ?_ ?_ ?_ ?_ ?_; (iterate 4 (focus (go_simp; done))); intro z0 z1 z2 z3 z4)); (try (refine two_below (b := v1.heap.size) (u := .int .i64 0) (v := .slice none 0 0) hc2 ?_ ?_ ?_ ?_ ?_; (iterate 4 (focus (go_simp; done))); intro z0 z1 z2 z3 z4)); (try (refine two_below (b := v1.heap.size + 1) (u := .int .i64 0) (v := .slice none 0 0) hc2 ?_ ?_ ?_ ?_ ?_; (iterate 4 (focus (go_simp; done))); intro z0 z1 z2 z3 z4)); clear hr1))
    all_goals (go_wp2_with fail; go_meet)
    all_goals refine ⟨_, _, h0, h1, rfl, rfl, Lib.hid ⟨(stand_keep HSt ?_).2.2.out, ?_, ?_, row_ref (row_kept HR0.out ?_), row_ref (row_kept HR1.out ?_)⟩⟩
    all_goals repeat (with_reducible first
      | assumption
      | exact ch_start _
      | apply ch_alloc
      | apply ch_drew
      | (refine ch_set ?_ ?_)
      | exact tw_base (by assumption) (by assumption) (by assumption) (by assumption)
      | apply kp_alloc
      | apply kp_drew
      | (refine kp_set ?_ ?_)
      | (refine tw_set ?_))
    all_goals (try (with_reducible exact kp_start g3))
    all_goals (try dsimp only)
    all_goals repeat (first
      | (with_reducible exact tw_base (by assumption) (by assumption) (by assumption) (by assumption))
      | (with_reducible refine tw_set ?_)
      | (with_reducible refine tw_new ?_; (first | rfl | (simp; done)))
      | (with_reducible refine tw_alloc ?_)
      | (with_reducible refine tw_past ?_ ?_))
    all_goals omega
  case rest =>
    obtain ⟨X, Y, h0, h1, rfl, rfl, HS2⟩ := hcut
    clear HSt
    have HA := Lib.hid HS2.out.1.2.2.2.1
    have HB := Lib.hid HS2.out.1.2.2.2.2.1
    go_upto_if 41 with fail
    go_cut [11] from 14 (fun u wx => ∃ x : Int, u = .int .i64 x ∧ wx = wc)
    case first =>
      by_cases hl : 0 < la.length
      · obtain ⟨g, off, rfl, hgN, c0⟩ := HA.out.at hl
        unfold encInt at c0
        rw [Nat.add_zero] at c0
        have i1 : (0 : Int) < (la.length : Int) := by omega
        generalize la[0] = z at c0
        go_wp2_with fail
        go_meet
        case rel => exact ⟨_, rfl, rfl⟩
      · go_wp2_with fail
        go_meet
        case rel => exact ⟨_, rfl, rfl⟩
    case rest =>
    obtain ⟨x, rfl, rfl⟩ := hcut
    go_upto_if 47 with fail
    go_cut [12] from 14 (fun u wx => ∃ y : Int, u = .int .i64 y ∧ wx = wc)
    case first =>
      by_cases hl : 0 < lb.length
      · obtain ⟨g, off, rfl, hgN, c0⟩ := HB.out.at hl
        unfold encInt at c0
        rw [Nat.add_zero] at c0
        have i1 : (0 : Int) < (lb.length : Int) := by omega
        generalize lb[0] = z at c0
        go_wp2_with fail
        go_meet
        case rel => exact ⟨_, rfl, rfl⟩
      · go_wp2_with fail
        go_meet
        case rel => exact ⟨_, rfl, rfl⟩
    case rest =>
    obtain ⟨y, rfl, rfl⟩ := hcut
    clear HA HB
    go_upto_region 10 with fail
    go_cut [13] from 14 (fun u wx => u = .bool (partsP (roomN x0) (ofP (roomN x0) la) x y) ∧ Hid (Stand2 ⟨w, w.heap.size, a, b, la, lb, x0, x1⟩ (gs + 1) gs (gt + 1) gt X Y h0 h1 wx))
    case first =>
      obtain ⟨k0, k1, k2, k3, -⟩ := stand2_keep HS2 (Below.refl _ _)
      have HPD := Lib.hid (show partsP (roomN x0) (ofP (roomN x0) la) x y = (fitB (roomN x0) x && fitB (roomN x0) y && (ofP (roomN x0) la x.toNat != ofP (roomN x0) la y.toNat)) from rfl)
      by_cases a1 : 0 ≤ x
      · have t1 : decide (x ≥ 0) = true := decide_eq_true a1
        by_cases a2 : x < (roomN x0 : Int)
        · have t2 : decide (x < (roomN x0 : Int)) = true := decide_eq_true a2
          have HFX : Hid (fitB (roomN x0) x = true) := Lib.hid (by unfold fitB; rw [decide_eq_true a1, t2]; rfl)
          by_cases a3 : 0 ≤ y
          · have t3 : decide (y ≥ 0) = true := decide_eq_true a3
            by_cases a4 : y < (roomN x0 : Int)
            · have t4 : decide (y < (roomN x0 : Int)) = true := decide_eq_true a4
              have HFY : Hid (fitB (roomN x0) y = true) := Lib.hid (by unfold fitB; rw [decide_eq_true a3, t4]; rfl)
              have HP : Hid (partsP (roomN x0) (ofP (roomN x0) la) x y = (ofP (roomN x0) la x.toNat != ofP (roomN x0) la y.toNat)) := Lib.hid (by rw [HPD.out, HFX.out, HFY.out]; rfl)
              clear a1 a2 a3 a4
              go_region_held3 (fun W => W.cell? ⟨X, 0, none⟩ = some (.int .i64 (roomN x0 : Int)) ∧ W.cell? ⟨X, 1, none⟩ = some (.slice (some ⟨h0, 0, none⟩) (roomN x0) (roomN x0)) ∧ W.cell? ⟨Y, 0, none⟩ = some (.int .i64 (roomN x1 : Int)) ∧ W.cell? ⟨Y, 1, none⟩ = some (.slice (some ⟨h1, 0, none⟩) (roomN x1) (roomN x1)) ∧ Hid (Stand2 ⟨w, w.heap.size, a, b, la, lb, x0, x1⟩ (gs + 1) gs (gt + 1) gt X Y h0 h1 W))
                (first
                        | exact stand2_keep HS2 ((Below.refl _ _).drew)
                        | (go_split_ands; exact stand2_keep (by assumption) hb1)
                        | (go_split_ands; exact stand2_keep (by assumption) hb2)
                        | go_keep)
                (first
                  | (go_at_call_of 10 x; go_split_ands; refine (hasRef_any (roomN x0) _ (some ⟨h0, 0, none⟩) _ x _ (stand2_x (by assumption))).mono ?_; rintro e v1 ⟨rfl, hb1⟩; rw [HFX.out, Bool.true_and])
                  | (go_at_call_of 10 y; go_split_ands; refine (hasRef_any (roomN x0) _ (some ⟨h0, 0, none⟩) _ y _ (stand2_x (by assumption))).mono ?_; rintro e v2 ⟨rfl, hb2⟩; rw [HFY.out, Bool.true_and]))
              all_goals (go_wp2_with fail; go_meet)
              all_goals exact ⟨by rw [HP.out]; rfl, (by assumption : _ ∧ _ ∧ _ ∧ _ ∧ Hid (Stand2 ⟨w, w.heap.size, a, b, la, lb, x0, x1⟩ (gs + 1) gs (gt + 1) gt X Y h0 h1 _)).2.2.2.2⟩
            · have t4 : decide (y < (roomN x0 : Int)) = false := decide_eq_false a4
              have HP : Hid (partsP (roomN x0) (ofP (roomN x0) la) x y = false) := Lib.hid (by rw [HPD.out, show fitB (roomN x0) y = false by unfold fitB; rw [t4, Bool.and_false], Bool.and_false]; rfl)
              clear a1 a2 a3 a4
              go_quiet (fail)
              go_wp2_with fail
              go_meet
              exact ⟨by rw [HP.out], (stand2_keep HS2 (below_drewN (Below.refl _ _) _)).2.2.2.2⟩
          · have t3 : decide (y ≥ 0) = false := decide_eq_false a3
            have HP : Hid (partsP (roomN x0) (ofP (roomN x0) la) x y = false) := Lib.hid (by rw [HPD.out, show fitB (roomN x0) y = false by unfold fitB; rw [decide_eq_false a3, Bool.false_and], Bool.and_false]; rfl)
            clear a1 a2 a3
            go_quiet (fail)
            go_wp2_with fail
            go_meet
            exact ⟨by rw [HP.out], (stand2_keep HS2 (below_drewN (Below.refl _ _) _)).2.2.2.2⟩
        · have t2 : decide (x < (roomN x0 : Int)) = false := decide_eq_false a2
          have HP : Hid (partsP (roomN x0) (ofP (roomN x0) la) x y = false) := Lib.hid (by rw [HPD.out, show fitB (roomN x0) x = false by unfold fitB; rw [t2, Bool.and_false]]; rfl)
          clear a1 a2
          go_quiet (fail)
          go_wp2_with fail
          go_meet
          exact ⟨by rw [HP.out], (stand2_keep HS2 (below_drewN (Below.refl _ _) _)).2.2.2.2⟩
      · have t1 : decide (x ≥ 0) = false := decide_eq_false a1
        have HP : Hid (partsP (roomN x0) (ofP (roomN x0) la) x y = false) := Lib.hid (by rw [HPD.out, show fitB (roomN x0) x = false by unfold fitB; rw [decide_eq_false a1, Bool.false_and]]; rfl)
        clear a1
        go_quiet (fail)
        go_wp2_with fail
        go_meet
        exact ⟨by rw [HP.out], (stand2_keep HS2 (below_drewN (Below.refl _ _) _)).2.2.2.2⟩
    case rest =>
    obtain ⟨rfl, HS3⟩ := hcut
    clear HS2
    obtain ⟨k0, k1, k2, k3, -⟩ := stand2_keep HS3 (Below.refl _ _)
    have HLe : Hid ((listP (ofP (roomN x0) la) (roomN x0)).length ≤ 1000000) := Lib.hid (by have := listP_len (ofP (roomN x0) la) (roomN x0); have := roomN_le x0; omega)
    go_upto_region 11 with fail
    by_cases hN : roomN x0 = roomN x1
    · have tN : ((roomN x0 : Int) == (roomN x1 : Int)) = true := by simp [hN]
      obtain ⟨D, hD⟩ : ∃ D, decide (listP (ofP (roomN x0) la) (roomN x0) = listP (ofP (roomN x1) lb) (roomN x1)) = D := ⟨_, rfl⟩
      have HD := Lib.hid hD
      have HSm : Hid (sameP (roomN x0) (ofP (roomN x0) la) (roomN x1) (ofP (roomN x1) lb) = D) := Lib.hid (by unfold sameP; rw [decide_eq_true hN, Bool.true_and]; exact hD)
      clear hD hN
      go_region_held3 (fun W => W.cell? ⟨X, 0, none⟩ = some (.int .i64 (roomN x0 : Int)) ∧ W.cell? ⟨X, 1, none⟩ = some (.slice (some ⟨h0, 0, none⟩) (roomN x0) (roomN x0)) ∧ W.cell? ⟨Y, 0, none⟩ = some (.int .i64 (roomN x1 : Int)) ∧ W.cell? ⟨Y, 1, none⟩ = some (.slice (some ⟨h1, 0, none⟩) (roomN x1) (roomN x1)) ∧ Hid (Stand2 ⟨w, w.heap.size, a, b, la, lb, x0, x1⟩ (gs + 1) gs (gt + 1) gt X Y h0 h1 W))
        (first
          | exact stand2_keep HS3 ((Below.refl _ _).drew)
          | (go_split_ands; exact stand2_keep (by assumption) hb6)
          | (go_split_ands; exact stand2_keep (by assumption) hb5)
          | (go_split_ands; exact stand2_keep (by assumption) hb4)
          | (go_split_ands; exact stand2_keep (by assumption) hb3)
          | (go_split_ands; exact stand2_keep (by assumption) hb2)
          | (go_split_ands; exact stand2_keep (by assumption) hb1)
          | go_keep)
        (first
          | (go_at_call_of 9 h0; go_split_ands; refine (same_true (gs + 1) gs (roomN x0) (ofP (roomN x0) la) (some ⟨h0, 0, none⟩) _ _ (stand2_s (by assumption))).mono ?_; rintro e v1 ⟨rfl, hb1⟩)
          | (go_at_call_of 9 h1; go_split_ands; refine (same_true (gt + 1) gt (roomN x1) (ofP (roomN x1) lb) (some ⟨h1, 0, none⟩) _ _ (stand2_t (by assumption))).mono ?_; rintro e v2 ⟨rfl, hb2⟩)
          | (go_at_call 20; go_split_ands; refine (same_any (gs + 1) gs (roomN x0) (gt + 1) gt (roomN x1) (ofP (roomN x0) la) (ofP (roomN x1) lb) _ (stand2_s (by assumption)).1 (stand2_t (by assumption)).1).mono ?_; rintro e v3 ⟨rfl, hd⟩; have hb3 := drawn_below hd; clear hd; rw [HSm.out])
          | (go_at_call_of 22 h0; go_split_ands; refine (listRef_any (roomN x0) (roomN_le x0) (ofP (roomN x0) la) (some ⟨h0, 0, none⟩) _ _ (stand2_s (by assumption)).2.1).mono ?_; rintro e v4 ⟨q4, c4, rfl, hr4, hb4⟩; have HR4 := Lib.hid hr4; clear hr4)
          | (go_at_call_of 22 h1; go_split_ands; refine (listRef_any (roomN x1) (roomN_le x1) (ofP (roomN x1) lb) (some ⟨h1, 0, none⟩) _ _ (stand2_t (by assumption)).2.1).mono ?_; rintro e v5 ⟨q5, c5, rfl, hr5, hb5⟩; have HR5 := Lib.hid hr5; have HR45 := Lib.hid (ReadsL.over HR4.out hb5 (Nat.le_refl _)); clear hr5)
          | (go_at_call 21; refine (intsRef_any q4 q5 c4 c5 _ _ _ HR45.out HR5.out HLe.out).mono ?_; rintro e v6 ⟨rfl, hd⟩; have hb6 := drawn_below hd; clear hd; rw [HD.out])
          | (go_at_call 23; go_split_ands; refine (parts_any (gs + 1) gs (roomN x0) (ofP (roomN x0) la) x y _ (stand2_s (by assumption)).1).mono ?_; rintro e v7 ⟨rfl, hd⟩; have hb6 := drawn_below hd; clear hd)
          | (go_at_call 6; go_split_ands; refine (awake_any _ (stand2_tab (by assumption))).mono ?_; rintro e v8 ⟨rfl, hb6⟩))
      all_goals (go_wp2; go_ret; exact ⟨rfl, stand2_bel (by assumption : _ ∧ _ ∧ _ ∧ _ ∧ Hid (Stand2 ⟨w, w.heap.size, a, b, la, lb, x0, x1⟩ (gs + 1) gs (gt + 1) gt X Y h0 h1 _)).2.2.2.2⟩)
    · have tN : ((roomN x0 : Int) == (roomN x1 : Int)) = false := by
        have : (roomN x0 : Int) ≠ (roomN x1 : Int) := fun e => hN (by omega)
        simpa using this
      have HSm : Hid (sameP (roomN x0) (ofP (roomN x0) la) (roomN x1) (ofP (roomN x1) lb) = false) := Lib.hid (by unfold sameP; rw [decide_eq_false hN]; rfl)
      clear hN
      refine wp_region_held_drew (S := (fun W => W.cell? ⟨X, 0, none⟩ = some (.int .i64 (roomN x0 : Int)) ∧ W.cell? ⟨X, 1, none⟩ = some (.slice (some ⟨h0, 0, none⟩) (roomN x0) (roomN x0)) ∧ W.cell? ⟨Y, 0, none⟩ = some (.int .i64 (roomN x1 : Int)) ∧ W.cell? ⟨Y, 1, none⟩ = some (.slice (some ⟨h1, 0, none⟩) (roomN x1) (roomN x1)) ∧ Hid (Stand2 ⟨w, w.heap.size, a, b, la, lb, x0, x1⟩ (gs + 1) gs (gt + 1) gt X Y h0 h1 W))) (by kernel_rfl) (stand2_keep HS3 ((Below.refl _ _).drew)) (fun hHeld => ?_)
      refine wpAnyH_take (i := 0) (v := .pointer (some ⟨gs + 1, 0, none⟩)) rfl (by kernel_rfl) (by kernel_rfl) (by kernel_rfl) (fun _ _ _ h => h) (Or.inl ⟨by kernel_rfl, fun w' hSw => ?_⟩) (by assumption) ?_
      · (try dsimp only at hSw)
        go_simp
      simp only [Act.put, List.setIfInBounds_toArray, List.set_cons_zero, List.set_cons_succ]
      refine wpAnyH_take (i := 1) (v := .agg #[.int .i64 (roomN x0 : Int), .slice (some ⟨h0, 0, none⟩) (roomN x0) (roomN x0)]) rfl (by kernel_rfl) (by kernel_rfl) (by kernel_rfl) (fun _ _ _ h => h) (Or.inl ⟨by kernel_rfl, fun w' hSw => ?_⟩) (by assumption) ?_
      · (try dsimp only at hSw)
        go_simp
      simp only [Act.put, List.setIfInBounds_toArray, List.set_cons_zero, List.set_cons_succ]
      refine wpAnyH_ready (rs := [2]) (by kernel_rfl) (by simp) ?_
      refine AllReadyH.cons rfl (fun K hK => ?_) AllReadyH.nil
      go_simp
      refine (same_true (gs + 1) gs (roomN x0) (ofP (roomN x0) la) (some ⟨h0, 0, none⟩) _ _ (stand2_s (by assumption : _ ∧ _ ∧ _ ∧ _ ∧ Hid (Stand2 ⟨w, w.heap.size, a, b, la, lb, x0, x1⟩ (gs + 1) gs (gt + 1) gt X Y h0 h1 _)).2.2.2.2)).mono ?_
      rintro e v1 ⟨rfl, hb1⟩
      go_wp2_with fail
      refine hK.out _ _ ?_ (fun hHeld => ?_)
      · exact stand2_keep (by assumption : _ ∧ _ ∧ _ ∧ _ ∧ Hid (Stand2 ⟨w, w.heap.size, a, b, la, lb, x0, x1⟩ (gs + 1) gs (gt + 1) gt X Y h0 h1 _)).2.2.2.2 hb1
      clear hK K
      refine wpAnyH_take (i := 3) (v := .bool true) rfl (by kernel_rfl) (by kernel_rfl) (by kernel_rfl) (fun _ _ _ h => h) (Or.inl ⟨by kernel_rfl, fun w' hSw => ?_⟩) (by assumption) ?_
      · (try dsimp only at hSw)
        go_simp
      simp only [Act.put, List.setIfInBounds_toArray, List.set_cons_zero, List.set_cons_succ]
      refine wpAnyH_take (i := 4) (v := .pointer (some ⟨gt + 1, 0, none⟩)) rfl (by kernel_rfl) (by kernel_rfl) (by kernel_rfl) (fun _ _ _ h => h) (Or.inl ⟨by kernel_rfl, fun w' hSw => ?_⟩) (by assumption) ?_
      · (try dsimp only at hSw)
        go_simp
      simp only [Act.put, List.setIfInBounds_toArray, List.set_cons_zero, List.set_cons_succ]
      refine wpAnyH_take (i := 5) (v := .agg #[.int .i64 (roomN x1 : Int), .slice (some ⟨h1, 0, none⟩) (roomN x1) (roomN x1)]) rfl (by kernel_rfl) (by kernel_rfl) (by kernel_rfl) (fun _ _ _ h => h) (Or.inl ⟨by kernel_rfl, fun w' hSw => ?_⟩) (by assumption) ?_
      · (try dsimp only at hSw)
        go_simp
      simp only [Act.put, List.setIfInBounds_toArray, List.set_cons_zero, List.set_cons_succ]
      refine wpAnyH_ready (rs := [6]) (by kernel_rfl) (by simp) ?_
      refine AllReadyH.cons rfl (fun K hK => ?_) AllReadyH.nil
      go_simp
      refine (same_true (gt + 1) gt (roomN x1) (ofP (roomN x1) lb) (some ⟨h1, 0, none⟩) _ _ (stand2_t (by assumption : _ ∧ _ ∧ _ ∧ _ ∧ Hid (Stand2 ⟨w, w.heap.size, a, b, la, lb, x0, x1⟩ (gs + 1) gs (gt + 1) gt X Y h0 h1 _)).2.2.2.2)).mono ?_
      rintro e v2 ⟨rfl, hb2⟩
      go_wp2_with fail
      refine hK.out _ _ ?_ (fun hHeld => ?_)
      · exact stand2_keep (by assumption : _ ∧ _ ∧ _ ∧ _ ∧ Hid (Stand2 ⟨w, w.heap.size, a, b, la, lb, x0, x1⟩ (gs + 1) gs (gt + 1) gt X Y h0 h1 _)).2.2.2.2 hb2
      clear hK K
      refine wpAnyH_take (i := 7) (v := .bool true) rfl (by kernel_rfl) (by kernel_rfl) (by kernel_rfl) (fun _ _ _ h => h) (Or.inl ⟨by kernel_rfl, fun w' hSw => ?_⟩) (by assumption) ?_
      · (try dsimp only at hSw)
        go_simp
      simp only [Act.put, List.setIfInBounds_toArray, List.set_cons_zero, List.set_cons_succ]
      refine wpAnyH_take (i := 8) (v := .bool true) rfl (by kernel_rfl) (by kernel_rfl) (by kernel_rfl) (fun _ _ _ h => h) (Or.inl ⟨by kernel_rfl, fun w' hSw => ?_⟩) (by assumption) ?_
      · (try dsimp only at hSw)
        go_simp
      simp only [Act.put, List.setIfInBounds_toArray, List.set_cons_zero, List.set_cons_succ]
      refine wpAnyH_take (i := 9) (v := .pointer (some ⟨gs + 1, 0, none⟩)) rfl (by kernel_rfl) (by kernel_rfl) (by kernel_rfl) (fun _ _ _ h => h) (Or.inl ⟨by kernel_rfl, fun w' hSw => ?_⟩) (by assumption) ?_
      · (try dsimp only at hSw)
        go_simp
      simp only [Act.put, List.setIfInBounds_toArray, List.set_cons_zero, List.set_cons_succ]
      refine wpAnyH_take (i := 10) (v := .pointer (some ⟨gt + 1, 0, none⟩)) rfl (by kernel_rfl) (by kernel_rfl) (by kernel_rfl) (fun _ _ _ h => h) (Or.inl ⟨by kernel_rfl, fun w' hSw => ?_⟩) (by assumption) ?_
      · (try dsimp only at hSw)
        go_simp
      simp only [Act.put, List.setIfInBounds_toArray, List.set_cons_zero, List.set_cons_succ]
      refine wpAnyH_take (i := 12) (v := .pointer (some ⟨X, 0, none⟩)) rfl (by kernel_rfl) (by kernel_rfl) (by kernel_rfl) (fun _ _ _ h => h) (Or.inl ⟨by kernel_rfl, fun w' hSw => ?_⟩) (by assumption) ?_
      · (try dsimp only at hSw)
        go_simp
      simp only [Act.put, List.setIfInBounds_toArray, List.set_cons_zero, List.set_cons_succ]
      refine wpAnyH_take (i := 13) (v := .int .i64 (roomN x0 : Int)) rfl (by kernel_rfl) (by kernel_rfl) (by kernel_rfl) (fun _ _ _ h => h) (Or.inl ⟨by kernel_rfl, fun w' hSw => ?_⟩) (by assumption) ?_
      · (try dsimp only at hSw)
        go_simp
      simp only [Act.put, List.setIfInBounds_toArray, List.set_cons_zero, List.set_cons_succ]
      refine wpAnyH_take (i := 14) (v := .pointer (some ⟨Y, 0, none⟩)) rfl (by kernel_rfl) (by kernel_rfl) (by kernel_rfl) (fun _ _ _ h => h) (Or.inl ⟨by kernel_rfl, fun w' hSw => ?_⟩) (by assumption) ?_
      · (try dsimp only at hSw)
        go_simp
      simp only [Act.put, List.setIfInBounds_toArray, List.set_cons_zero, List.set_cons_succ]
      refine wpAnyH_take (i := 15) (v := .int .i64 (roomN x1 : Int)) rfl (by kernel_rfl) (by kernel_rfl) (by kernel_rfl) (fun _ _ _ h => h) (Or.inl ⟨by kernel_rfl, fun w' hSw => ?_⟩) (by assumption) ?_
      · (try dsimp only at hSw)
        go_simp
      simp only [Act.put, List.setIfInBounds_toArray, List.set_cons_zero, List.set_cons_succ]
      refine wpAnyH_take (i := 16) (v := .bool false) rfl (by kernel_rfl) (by kernel_rfl) (by kernel_rfl) (fun _ _ _ h => h) (Or.inl ⟨by kernel_rfl, fun w' hSw => ?_⟩) (by assumption) ?_
      · (try dsimp only at hSw)
        go_simp
      simp only [Act.put, List.setIfInBounds_toArray, List.set_cons_zero, List.set_cons_succ]
      refine wpAnyH_ready (rs := [11]) (by kernel_rfl) (by simp) ?_
      refine AllReadyH.cons rfl (fun K hK => ?_) AllReadyH.nil
      go_simp
      refine (same_any (gs + 1) gs (roomN x0) (gt + 1) gt (roomN x1) (ofP (roomN x0) la) (ofP (roomN x1) lb) _ (stand2_s (by assumption : _ ∧ _ ∧ _ ∧ _ ∧ Hid (Stand2 ⟨w, w.heap.size, a, b, la, lb, x0, x1⟩ (gs + 1) gs (gt + 1) gt X Y h0 h1 _)).2.2.2.2).1 (stand2_t (by assumption : _ ∧ _ ∧ _ ∧ _ ∧ Hid (Stand2 ⟨w, w.heap.size, a, b, la, lb, x0, x1⟩ (gs + 1) gs (gt + 1) gt X Y h0 h1 _)).2.2.2.2).1).mono ?_
      rintro e v3 ⟨rfl, hd⟩
      have hb3 := drawn_below hd
      clear hd
      rw [HSm.out]
      go_wp2_with fail
      refine hK.out _ _ ?_ (fun hHeld => ?_)
      · exact stand2_keep (by assumption : _ ∧ _ ∧ _ ∧ _ ∧ Hid (Stand2 ⟨w, w.heap.size, a, b, la, lb, x0, x1⟩ (gs + 1) gs (gt + 1) gt X Y h0 h1 _)).2.2.2.2 hb3
      clear hK K
      refine wpAnyH_take (i := 17) (v := .bool false) rfl (by kernel_rfl) (by kernel_rfl) (by kernel_rfl) (fun _ _ _ h => h) (Or.inl ⟨by kernel_rfl, fun w' hSw => ?_⟩) (by assumption) ?_
      · (try dsimp only at hSw)
        go_simp
      simp only [Act.put, List.setIfInBounds_toArray, List.set_cons_zero, List.set_cons_succ]
      refine wpAnyH_take (i := 18) (v := undef) rfl (by kernel_rfl) (by kernel_rfl) (by kernel_rfl) (fun _ _ _ h => h) (Or.inr ⟨by kernel_rfl, rfl⟩) (by assumption) ?_
      simp only [Act.put, List.setIfInBounds_toArray, List.set_cons_zero, List.set_cons_succ]
      refine wpAnyH_take (i := 20) (v := undef) rfl (by kernel_rfl) (by kernel_rfl) (by kernel_rfl) (fun _ _ _ h => h) (Or.inr ⟨by kernel_rfl, rfl⟩) (by assumption) ?_
      simp only [Act.put, List.setIfInBounds_toArray, List.set_cons_zero, List.set_cons_succ]
      refine wpAnyH_ready (rs := [19]) (by kernel_rfl) (by simp) ?_
      refine AllReadyH.cons rfl (fun K hK => ?_) AllReadyH.nil
      go_simp
      refine hK.out _ _ (by assumption) (fun hHeld => ?_)
      clear hK K
      refine wpAnyH_ready (rs := [21]) (by kernel_rfl) (by simp) ?_
      refine AllReadyH.cons rfl (fun K hK => ?_) AllReadyH.nil
      go_simp
      refine hK.out _ _ (by assumption) (fun hHeld => ?_)
      clear hK K
      refine wpAnyH_ready (rs := [22]) (by kernel_rfl) (by simp) ?_
      refine AllReadyH.cons rfl (fun K hK => ?_) AllReadyH.nil
      go_simp
      refine hK.out _ _ (by assumption) (fun hHeld => ?_)
      clear hK K
      refine wpAnyH_take (i := 23) (v := .bool false) rfl (by kernel_rfl) (by kernel_rfl) (by kernel_rfl) (fun _ _ _ h => h) (Or.inl ⟨by kernel_rfl, fun w' hSw => ?_⟩) (by assumption) ?_
      · (try dsimp only at hSw)
        go_simp
      simp only [Act.put, List.setIfInBounds_toArray, List.set_cons_zero, List.set_cons_succ]
      refine wpAnyH_take (i := 24) (v := .bool true) rfl (by kernel_rfl) (by kernel_rfl) (by kernel_rfl) (fun _ _ _ h => h) (Or.inl ⟨by kernel_rfl, fun w' hSw => ?_⟩) (by assumption) ?_
      · (try dsimp only at hSw)
        go_simp
      simp only [Act.put, List.setIfInBounds_toArray, List.set_cons_zero, List.set_cons_succ]
      refine wpAnyH_take (i := 25) (v := .bool true) rfl (by kernel_rfl) (by kernel_rfl) (by kernel_rfl) (fun _ _ _ h => h) (Or.inl ⟨by kernel_rfl, fun w' hSw => ?_⟩) (by assumption) ?_
      · (try dsimp only at hSw)
        go_simp
      simp only [Act.put, List.setIfInBounds_toArray, List.set_cons_zero, List.set_cons_succ]
      refine wpAnyH_take (i := 26) (v := .bool true) rfl (by kernel_rfl) (by kernel_rfl) (by kernel_rfl) (fun _ _ _ h => h) (Or.inl ⟨by kernel_rfl, fun w' hSw => ?_⟩) (by assumption) ?_
      · (try dsimp only at hSw)
        go_simp
      simp only [Act.put, List.setIfInBounds_toArray, List.set_cons_zero, List.set_cons_succ]
      refine wpAnyH_take (i := 27) (v := .pointer (some ⟨gs + 1, 0, none⟩)) rfl (by kernel_rfl) (by kernel_rfl) (by kernel_rfl) (fun _ _ _ h => h) (Or.inl ⟨by kernel_rfl, fun w' hSw => ?_⟩) (by assumption) ?_
      · (try dsimp only at hSw)
        go_simp
      simp only [Act.put, List.setIfInBounds_toArray, List.set_cons_zero, List.set_cons_succ]
      refine wpAnyH_take (i := 28) (v := .int .i64 x) rfl (by kernel_rfl) (by kernel_rfl) (by kernel_rfl) (fun _ _ _ h => h) (Or.inl ⟨by kernel_rfl, fun w' hSw => ?_⟩) (by assumption) ?_
      · (try dsimp only at hSw)
        go_simp
      simp only [Act.put, List.setIfInBounds_toArray, List.set_cons_zero, List.set_cons_succ]
      refine wpAnyH_take (i := 29) (v := .int .i64 y) rfl (by kernel_rfl) (by kernel_rfl) (by kernel_rfl) (fun _ _ _ h => h) (Or.inl ⟨by kernel_rfl, fun w' hSw => ?_⟩) (by assumption) ?_
      · (try dsimp only at hSw)
        go_simp
      simp only [Act.put, List.setIfInBounds_toArray, List.set_cons_zero, List.set_cons_succ]
      refine wpAnyH_take (i := 31) (v := .bool (partsP (roomN x0) (ofP (roomN x0) la) x y)) rfl (by kernel_rfl) (by kernel_rfl) (by kernel_rfl) (fun _ _ _ h => h) (Or.inl ⟨by kernel_rfl, fun w' hSw => ?_⟩) (by assumption) ?_
      · (try dsimp only at hSw)
        go_simp
      simp only [Act.put, List.setIfInBounds_toArray, List.set_cons_zero, List.set_cons_succ]
      refine wpAnyH_ready (rs := [30]) (by kernel_rfl) (by simp) ?_
      refine AllReadyH.cons rfl (fun K hK => ?_) AllReadyH.nil
      go_simp
      refine (parts_any (gs + 1) gs (roomN x0) (ofP (roomN x0) la) x y _ (stand2_s (by assumption : _ ∧ _ ∧ _ ∧ _ ∧ Hid (Stand2 ⟨w, w.heap.size, a, b, la, lb, x0, x1⟩ (gs + 1) gs (gt + 1) gt X Y h0 h1 _)).2.2.2.2).1).mono ?_
      rintro e v4 ⟨rfl, hd⟩
      have hb4 := drawn_below hd
      clear hd
      go_wp2_with fail
      refine hK.out _ _ ?_ (fun hHeld => ?_)
      · exact stand2_keep (by assumption : _ ∧ _ ∧ _ ∧ _ ∧ Hid (Stand2 ⟨w, w.heap.size, a, b, la, lb, x0, x1⟩ (gs + 1) gs (gt + 1) gt X Y h0 h1 _)).2.2.2.2 hb4
      clear hK K
      refine wpAnyH_take (i := 32) (v := .bool true) rfl (by kernel_rfl) (by kernel_rfl) (by kernel_rfl) (fun _ _ _ h => h) (Or.inl ⟨by kernel_rfl, fun w' hSw => ?_⟩) (by assumption) ?_
      · (try dsimp only at hSw)
        go_simp
      simp only [Act.put, List.setIfInBounds_toArray, List.set_cons_zero, List.set_cons_succ]
      refine wpAnyH_take (i := 33) (v := .bool true) rfl (by kernel_rfl) (by kernel_rfl) (by kernel_rfl) (fun _ _ _ h => h) (Or.inl ⟨by kernel_rfl, fun w' hSw => ?_⟩) (by assumption) ?_
      · (try dsimp only at hSw)
        go_simp
      simp only [Act.put, List.setIfInBounds_toArray, List.set_cons_zero, List.set_cons_succ]
      refine wpAnyH_take (i := 34) (v := .bool true) rfl (by kernel_rfl) (by kernel_rfl) (by kernel_rfl) (fun _ _ _ h => h) (Or.inl ⟨by kernel_rfl, fun w' hSw => ?_⟩) (by assumption) ?_
      · (try dsimp only at hSw)
        go_simp
      simp only [Act.put, List.setIfInBounds_toArray, List.set_cons_zero, List.set_cons_succ]
      refine wpAnyH_ready (rs := [35]) (by kernel_rfl) (by simp) ?_
      refine AllReadyH.cons rfl (fun K hK => ?_) AllReadyH.nil
      go_simp
      refine (awake_any _ (stand2_tab (by assumption : _ ∧ _ ∧ _ ∧ _ ∧ Hid (Stand2 ⟨w, w.heap.size, a, b, la, lb, x0, x1⟩ (gs + 1) gs (gt + 1) gt X Y h0 h1 _)).2.2.2.2)).mono ?_
      rintro e v5 ⟨rfl, hb5⟩
      go_wp2_with fail
      refine hK.out _ _ ?_ (fun hHeld => ?_)
      · exact stand2_keep (by assumption : _ ∧ _ ∧ _ ∧ _ ∧ Hid (Stand2 ⟨w, w.heap.size, a, b, la, lb, x0, x1⟩ (gs + 1) gs (gt + 1) gt X Y h0 h1 _)).2.2.2.2 hb5
      clear hK K
      refine wpAnyH_take (i := 36) (v := .bool true) rfl (by kernel_rfl) (by kernel_rfl) (by kernel_rfl) (fun _ _ _ h => h) (Or.inl ⟨by kernel_rfl, fun w' hSw => ?_⟩) (by assumption) ?_
      · (try dsimp only at hSw)
        go_simp
      change wpAnyH _ _ _ _ _ _ _ (Act.put _ (some 114) (Value.bool true)) _
      simp only [Act.put, List.setIfInBounds_toArray, List.set_cons_zero, List.set_cons_succ]
      refine wpAnyH_take (i := 37) (v := .bool true) rfl (by kernel_rfl) (by kernel_rfl) (by kernel_rfl) (fun _ _ _ h => h) (Or.inl ⟨by kernel_rfl, fun w' hSw => ?_⟩) (by assumption) ?_
      · (try dsimp only at hSw)
        go_simp
      change wpAnyH _ _ _ _ _ _ _ (Act.put _ (some 6) (Value.bool true)) _
      simp only [Act.put, List.setIfInBounds_toArray, List.set_cons_zero, List.set_cons_succ]
      refine wpAnyH_done (by kernel_rfl) ?_ _
      go_wp2
      go_ret
      exact ⟨rfl, stand2_bel (by assumption : _ ∧ _ ∧ _ ∧ _ ∧ Hid (Stand2 ⟨w, w.heap.size, a, b, la, lb, x0, x1⟩ (gs + 1) gs (gt + 1) gt X Y h0 h1 _)).2.2.2.2⟩
theorem walk (w : World) (x0 x1 : Int) (w00 : (Lit.int .i64 x0).wf = true) (w01 : (Lit.int .i64 x1).wf = true) (a : Option Addr) (lena ca : Nat) (za : List Int) (wa : IsRow .i64 w a lena ca za) (b : Option Addr) (lenb cb : Nat) (zb : List Int) (wb : IsRow .i64 w b lenb cb zb) (hT : TabAt 0 Lib.deBruijn64tab w) :
    Calls Tryd.prog 4 #[.agg #[.int .i64 x0, .int .i64 x1], .slice a lena ca, .slice b lenb cb] w fun e w' => e = .returned (.bool true) ∧ Below w.heap.size w w' := by
  obtain ⟨h00, h01⟩ := bounds_i64 w00
  obtain ⟨h10, h11⟩ := bounds_i64 w01
  obtain ⟨la, hla, -, ra, ma, -⟩ := row_reads wa
  obtain ⟨lb, hlb, -, rb, mb, -⟩ := row_reads wb
  have := walk_list x0 x1 h00 h01 h10 h11 a ca la b cb lb w ra rb (by omega) (by omega) hT
  rw [hla, hlb] at this
  exact this
theorem laidOut : laidOutB Tryd.prog = true := by kernel_rfl
set_option maxRecDepth 100000 in
theorem lifted (os : Os) (started : os.Started) (H : Type) (enc : TypeId × Value → H) :
    ReturnsInHanded {} Tryd.checked os 4 .any (fun w args => (Rows.vsetOfSpec.pre enc Tryd.prog Tryd.f4 [] false w args ∧ laidMetH Tryd.prog Rows.vsetPlaysRow.laid w) ∧ sizedMet enc Tryd.prog Tryd.f4 (OpenSpec.ofChange Rows.vsetOfSpec) false w args)
      (Rows.vsetOfSpec.post enc Tryd.prog Tryd.f4 false true false false) := by
  refine returnsInHanded_of_change_and (C := Tryd.checked) (X := fun w _ => laidMetH Tryd.prog Rows.vsetPlaysRow.laid w) (fun _ _ _ hh h => h.of_heap hh) own started (by kernel_rfl) Tryd.func4
    (ChangeSpec.witness_at (enc := enc) (C := Tryd.checked) (os := os) (X := fun w _ => laidMetH Tryd.prog Rows.vsetPlaysRow.laid w) false (laidWorld Tryd.prog os) #[.agg #[.int .i64 0, .int .i64 0], .slice none 0 0, .slice none 0 0] 8 rfl (by kernel_rfl) (by kernel_rfl) (by kernel_rfl) (by kernel_rfl) (by kernel_rfl) (laid_met os _)) ?_
  intro W base args ds gs before hval0 hW _ _ hL _
  have hval : ∀ (j : Nat) t v, Tryd.f4.params[j]? = some t → args[j]? = some v → Value.okWide Tryd.prog W .any base t v := hval0
  have hW' := hW
  obtain ⟨p, q, hA0, hV, rfl, hfz, hnd⟩ := hW
  have hA : DataW.TrodAll enc Tryd.prog W 0 (fun _ => true) true Tryd.f4.params.toList args.toList ds p := hA0
  rw [Tryd.params4] at hA hval
  obtain ⟨v0, vs0, d0, ds0, p0, q0, hargs, rfl, rfl, h0, r0⟩ := trodAll_cons hA
  obtain ⟨v1, vs1, d1, ds1, p1, q1, rfl, rfl, rfl, h1, r1⟩ := trodAll_cons r0
  obtain ⟨v2, vs2, d2, ds2, p2, q2, rfl, rfl, rfl, h2, r2⟩ := trodAll_cons r1
  obtain ⟨rfl, rfl, rfl⟩ := trodAll_nil r2
  obtain rfl : args = #[v0, v1, v2] := by cases args; simp_all
  obtain ⟨rfl, rfl⟩ := trodVars_none hV
  have k0 := h0
  have lt0 : ∀ x ∈ p0, x.block < W.heap.size := by obtain ⟨m, hm⟩ := k0; exact DataW.trod_lt m _ _ _ hm
  obtain ⟨a0, b0, rfl, w00, w01⟩ := open_two (hval 0 38 v0 rfl rfl) h0
  obtain ⟨a1, len1, cap1, rfl⟩ := okWide_slice Tryd.underlying39 (hval 1 39 v1 rfl rfl)
  have k1 := h1
  have lt1 : ∀ x ∈ p1, x.block < W.heap.size := by obtain ⟨m, hm⟩ := k1; exact DataW.trod_lt m _ _ _ hm
  obtain ⟨z1, w1⟩ : ∃ zs, IsRow .i64 W a1 len1 cap1 zs := by
    obtain ⟨fuel, hf⟩ := h1
    rcases open_ints Tryd.underlying39 Tryd.underlying3 (by kernel_rfl) hf with ⟨hcs, _⟩ | ⟨x, l, c, zs, hcs, _, hl, hm, hz, _, hcell, hwz⟩
    · simp [Value.cells] at hcs
      obtain ⟨rfl, rfl, rfl⟩ := hcs
      exact ⟨[], .inl ⟨rfl, rfl, rfl, rfl⟩⟩
    · simp [Value.cells] at hcs
      obtain ⟨rfl, rfl, rfl⟩ := hcs
      exact ⟨zs, .inr ⟨_, rfl, hl, hm, by simpa using hz, hcell, hwz⟩⟩
  obtain ⟨a2, len2, cap2, rfl⟩ := okWide_slice Tryd.underlying39 (hval 2 39 v2 rfl rfl)
  have k2 := h2
  have lt2 : ∀ x ∈ p2, x.block < W.heap.size := by obtain ⟨m, hm⟩ := k2; exact DataW.trod_lt m _ _ _ hm
  obtain ⟨z2, w2⟩ : ∃ zs, IsRow .i64 W a2 len2 cap2 zs := by
    obtain ⟨fuel, hf⟩ := h2
    rcases open_ints Tryd.underlying39 Tryd.underlying3 (by kernel_rfl) hf with ⟨hcs, _⟩ | ⟨x, l, c, zs, hcs, _, hl, hm, hz, _, hcell, hwz⟩
    · simp [Value.cells] at hcs
      obtain ⟨rfl, rfl, rfl⟩ := hcs
      exact ⟨[], .inl ⟨rfl, rfl, rfl, rfl⟩⟩
    · simp [Value.cells] at hcs
      obtain ⟨rfl, rfl, rfl⟩ := hcs
      exact ⟨zs, .inr ⟨_, rfl, hl, hm, by simpa using hz, hcell, hwz⟩⟩
  clear hA0 hval0
  refine (walk W a0 b0 w00 w01 a1 len1 cap1 z1 w1 a2 len2 cap2 z2 w2 (tab_of_laid hL)).mono fun e W' ⟨he, bel⟩ => ?_
  subst he
  exact ⟨_, rfl, _, _, _, [], _, [], hW', trodAll_mk1 (shut_bool Tryd.underlying4 _), (trodAll_cons_mk (Below.trod laidOut (by kernel_rfl) (of_decide_eq_true (by kernel_rfl)) k0 bel lt0) (trodAll_cons_mk (Below.trod laidOut (by kernel_rfl) (of_decide_eq_true (by kernel_rfl)) k1 bel lt1) (trodAll_cons_mk (Below.trod laidOut (by kernel_rfl) (of_decide_eq_true (by kernel_rfl)) k2 bel lt2) trodAll_mk0))), rfl, bel.frame _, fun h => by cases h⟩
theorem over : Rows.vsetOfRow.holds Tryd.pinned (OpenSpec.ofChange Rows.vsetOfSpec) :=
  OpenClaim.holds_of_wide 4 Tryd.f4 rfl rfl rfl rfl rfl rfl rfl ⟨rfl, rfl, rfl, rfl, rfl⟩ rfl rfl rfl rfl rfl (by kernel_rfl) Tryd.func4 (by kernel_rfl)
    (of_decide_eq_true (by kernel_rfl)) (by unfold Func.isWrapper; first | (rw [if_pos (by decide +kernel)]; kernel_rfl) | (rw [if_neg (by decide +kernel)]; exact ⟨rfl, rfl⟩))
    (fun os started H enc _ => lifted os started H enc)
/-- The statement: the tied card. -/
theorem proved : Rows.VsetOfCardSaid :=
  Claim7.holds_tied_plain_at .later [] [.data] true Rows.vsetOfCard.stood.harness Rows.vsetOfCard.stood.looks
    over (fun _ h => by cases h) (by kernel_rfl) (fun _ h => by cases h) vsetOf_row_tie rfl ⟨rfl, rfl⟩ (by kernel_rfl) rfl
    (fun f fn hf hfn => by
      obtain rfl : f = 4 := Option.some.inj ((show Tryd.prog.funcNamed Rows.vsetOfRow.func = some 4 by kernel_rfl).symm.trans hf) |>.symm
      obtain rfl : fn = Tryd.f4 := (Option.some.inj (Tryd.func4.symm.trans hfn)).symm
      exact ⟨by kernel_rfl, fun j t ht => by
        rw [Tryd.params4] at ht
        have hall : ∀ t ∈ #[38, 39, 39], Tryd.prog.wantsStandIn t = false := by decide +kernel
        exact hall t (Array.mem_of_getElem? ht)⟩)
    (by kernel_rfl)
#print axioms proved
end Go.Proofs.YtkhkejfpoaleoaaDoor.vsetOf
