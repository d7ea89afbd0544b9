/- Contracts of Step, Scale and Fits, and of what they run: a stop is taken back, or there is none. -/
import Derived.Test.YtopniihomjakoaaDoorQuantScale
import Derived.Test.YtopniihomjakoaaDoorQuantStop
namespace Go.Proofs.YtopniihomjakoaaDoor
open Go.RowKit Go.ChangeShapes FbitPure QuantPure
theorem hmf : ∀ (fn : Fn) (first cap : Array Value) (w : World), (Instr.makeFunc fn first cap).run Tryd.prog w = .ok (.func fn first cap) w := fun _ _ _ _ => rfl
/-- How what goes over l ends: with a value, or with a stop. -/
def EndOut (E : Nat → Int) (l : List Nat) (v : Value) (e : Ending) : Prop :=
  (firstBad E l = l.length ∧ e = .returned v) ∨ (firstBad E l < l.length ∧ e = .panicked [{ v := stopV (errAt E l) (plcAt E l), recovered := false }])
theorem stepRel_start (w : World) (l : List Nat) : CellAt w.heap.size (((w.alloc (.cells #[.int .i64 0] 3)).alloc (.cells #[.bool false] 4))) (.int .i64 0) ∧ CellAt (w.heap.size + 1) (((w.alloc (.cells #[.int .i64 0] 3)).alloc (.cells #[.bool false] 4))) (.bool false) := by
  have h1 := CellAt.new w (.int .i64 0) 3
  have h2 := CellAt.new (w.alloc (.cells #[.int .i64 0] 3)) (.bool false) 4
  refine ⟨h1.keep ((Below.refl _ _).alloc (Nat.le_refl _) _), ?_⟩
  simpa using h2
set_option maxHeartbeats 400000 in
theorem commonStep_any (a : Option Addr) (cap : Nat) (l : List Nat) (w : World) (hr : WideL l) (hl : ReadsL encF w.heap.size w a l) (hlen : l.length ≤ 1000) (hT : TabAt 1 Lib.deBruijn64tab w) (hG : 1 < w.heap.size) :
    Calls Tryd.prog 21 #[.slice a l.length cap] w fun e w' => EndOut noE l (.int .i64 (fold l).1) e ∧ Below w.heap.size w w' := by
  have hm := hmf
  obtain ⟨s1, s2⟩ := stepRel_start w l
  have hb := ((Below.refl w.heap.size w).alloc (Nat.le_refl _) (.cells #[.int .i64 0] 3)).alloc (by simp) (.cells #[.bool false] 4)
  have H1 := Lib.hid s1
  have H2 := Lib.hid s2
  have HB := Lib.hid hb
  have HT := Lib.hid (tab_below hT hG hb)
  have HL := Lib.hid (hl.on hb)
  have HR := Lib.hid hr
  clear s1 s2 hb hT hl hr
  go_enter Tryd.func21, Tryd.ntmps21
  go_wp2_with fail
  refine (overStep_any a cap l w.heap.size _ HR.out HL.out hlen H1.out H2.out HT.out hG).mono ?_
  rintro e w1 ⟨ho, hb1, hc⟩
  have HB1 := Lib.hid (HB.out.trans hb1)
  clear hb1
  rcases ho with ⟨hg, rfl⟩ | ⟨hg, rfl⟩
  · obtain ⟨c0, f0⟩ := hc hg
    clear hc
    have hlt := World.block_lt_of_cell? w1 _ c0
    go_wp2
    go_ret
    exact ⟨Or.inl ⟨hg, rfl⟩, HB1.out⟩
  · go_wp2
    exact ⟨rfl, Or.inr ⟨hg, rfl⟩, HB1.out⟩
theorem RowIs.past {G : Nat} {w : World} {vs : List Value} (h : RowIs G w vs) {N i : Nat} (hN : N ≠ G) (u : Value) : RowIs G (w.setCell ⟨N, i, none⟩ u) vs :=
  fun j hj => ⟨(World.cell?_setCell_other w ⟨N, i, none⟩ ⟨G, j, none⟩ _ (fun e => hN (congrArg Addr.block e))).trans (h j hj).1, by simpa using (h j hj).2⟩
/-- What is told of the numbers of steps in memory. -/
def CntOut (G : Nat) (K : Int) (l : List Nat) (e : Ending) (w' : World) : Prop :=
  (firstBad (cntE K) l = l.length ∧ e = .returned (.slice (some ⟨G, 0, none⟩) l.length l.length) ∧ RowIs G w' (l.map (encC K))) ∨
  (firstBad (cntE K) l < l.length ∧ e = .panicked [{ v := stopV (errAt (cntE K) l) (plcAt (cntE K) l), recovered := false }])
theorem scaleRel_start (w : World) (l : List Nat) (K : Int) :
    ScaleRel w.heap.size w l K 0 (((w.alloc (.cells #[.int .i64 K] 3)).alloc (.cells (madeCells #[.int .i64 0] l.length) 2)).alloc (.cells #[.slice (some ⟨w.heap.size + 1, 0, none⟩) l.length l.length] 29)) := by
  have h1 := CellAt.new w (.int .i64 K) 3
  have h2 := rowIs_made (w.alloc (.cells #[.int .i64 K] 3)) (.int .i64 0) l.length 2
  have h3 := CellAt.new ((w.alloc (.cells #[.int .i64 K] 3)).alloc (.cells (madeCells #[.int .i64 0] l.length) 2)) (.slice (some ⟨w.heap.size + 1, 0, none⟩) l.length l.length) 29
  refine ⟨Nat.zero_le _, (((Below.refl _ _).alloc (Nat.le_refl _) _).alloc (by simp) _).alloc (by simp; omega) _, (h1.keep ((Below.refl _ _).alloc (Nat.le_refl _) _)).keep ((Below.refl _ _).alloc (Nat.le_refl _) _), ?_, ?_⟩
  · simpa using h3
  · rw [List.take_zero, List.map_nil, List.nil_append, Nat.sub_zero]
    have := h2.on ((Below.refl _ _).alloc (Nat.le_refl _) (.cells #[.slice (some ⟨w.heap.size + 1, 0, none⟩) l.length l.length] 29)) (by simp)
    simpa using this
set_option maxHeartbeats 400000 in
theorem scaled_any (a : Option Addr) (cap : Nat) (l : List Nat) (K : Int) (w : World) (hr : WideL l) (hl : ReadsL encF w.heap.size w a l) (hlen : l.length ≤ 1000) (hk1 : -9223372036854775808 ≤ K) (hk2 : K ≤ 9223372036854775807) (hT : TabAt 1 Lib.deBruijn64tab w) (hG : 1 < w.heap.size) :
    Calls Tryd.prog 23 #[.slice a l.length cap, .int .i64 K] w fun e w' => CntOut (w.heap.size + 1) K l e w' ∧ Below w.heap.size w w' := by
  have hm := hmf
  have hs := scaleRel_start w l K
  have hmk := makeRow (P := Tryd.prog) (T := 29) (E := 2) (z := .int .i64 0) (c := 8) Tryd.underlying29 (by kernel_rfl) (by decide) rfl l.length (by omega) (w.alloc (.cells #[.int .i64 K] 3))
  have HS := Lib.hid hs
  have HT := Lib.hid (tab_below hT hG hs.2.1)
  have HL := Lib.hid (hl.on hs.2.1)
  have HB := Lib.hid hs.2.1
  have HR := Lib.hid hr
  clear hs hT hl hr
  go_enter Tryd.func23, Tryd.ntmps23
  go_wp2_with fail
  have HS2 := Lib.hid (show ScaleRel w.heap.size _ l K 0 _ from ⟨HS.out.1, Below.refl _ _, HS.out.2.2⟩)
  refine (overScale_any a cap l K w.heap.size _ HR.out HL.out hlen hk1 hk2 HS2.out HT.out hG).mono ?_
  rintro e w1 ⟨ho, hb1, hc⟩
  have HB1 := Lib.hid (HB.out.trans hb1)
  clear hb1
  rcases ho with ⟨hg, rfl⟩ | ⟨hg, rfl⟩
  · obtain ⟨⟨c0, f0⟩, hrow⟩ := hc hg
    have HROW := Lib.hid hrow
    clear hc hrow
    have hlt := World.block_lt_of_cell? w1 _ c0
    go_wp2
    go_ret
    exact ⟨Or.inl ⟨hg, rfl, HROW.out⟩, HB1.out⟩
  · go_wp2
    exact ⟨rfl, Or.inr ⟨hg, rfl⟩, HB1.out⟩
/-- Of the blocks of one cell only N may be otherwise; below N nothing is. -/
def Kept (N : Nat) (w w' : World) : Prop := Below N w w' ∧ ∀ M v, N ≠ M → CellAt M w v → CellAt M w' v
theorem Kept.of_below {N : Nat} {w w' : World} (h : Below w.heap.size w w') (hN : N ≤ w.heap.size) : Kept N w w' := ⟨h.mono hN, fun _ _ _ hc => hc.keep h⟩
theorem Kept.set {N : Nat} {w w' : World} (h : Kept N w w') (v : Value) : Kept N w (w'.setCell ⟨N, 0, none⟩ v) := ⟨h.1.setCell (p := ⟨N, 0, none⟩) (Nat.le_refl _) v, fun M u hM hc => (h.2 M u hM hc).past hM v⟩
set_option maxHeartbeats 400000 in
/-- What Step runs. -/
theorem stepRun_any (A : Nat) (a : Option Addr) (cap : Nat) (l : List Nat) (w : World) (hr : WideL l) (hl : ReadsL encF w.heap.size w a l) (hlen : l.length ≤ 1000) (hT : TabAt 1 Lib.deBruijn64tab w) (hG : 1 < w.heap.size)
    (h0 : CellAt A w (.slice a l.length cap)) (h1 : CellAt (A + 1) w (.int .i64 0)) :
    Calls Tryd.prog 20 #[.pointer (some ⟨A, 0, none⟩), .pointer (some ⟨A + 1, 0, none⟩)] w fun e w' => EndOut noE l (.tuple #[]) e ∧ Kept (A + 1) w w' ∧ CellAt (A + 1) w' (.int .i64 (stepK l)) := by
  have HT := Lib.hid hT
  have HL := Lib.hid hl
  have HR := Lib.hid hr
  have H1 := Lib.hid h1
  have hlt := h1.lt
  obtain ⟨c0, f0⟩ := h0
  clear hT hl hr h1
  go_enter Tryd.func20, Tryd.ntmps20
  go_wp2_with fail
  refine (commonStep_any a cap l w HR.out HL.out hlen HT.out hG).mono ?_
  rintro e w1 ⟨ho, hb1⟩
  have H2 := Lib.hid (H1.out.keep hb1)
  have HB1 := Lib.hid (Kept.of_below hb1 (Nat.le_of_lt hlt))
  clear hb1
  rcases ho with ⟨hg, rfl⟩ | ⟨hg, rfl⟩
  · have e1 := Lib.hid (show stepK l = (fold l).1 from if_pos hg)
    obtain ⟨c1, f1⟩ := H2.out
    go_wp2
    refine ⟨rfl, _, results_none rfl _ _ _, Or.inl ⟨hg, rfl⟩, HB1.out.set _, ?_⟩
    rw [e1.out]
    exact H2.out.set _
  · have e1 := Lib.hid (show stepK l = 0 from if_neg (by omega))
    go_wp2
    refine ⟨rfl, Or.inr ⟨hg, rfl⟩, HB1.out, ?_⟩
    rw [e1.out]
    exact H2.out
/-- The numbers of steps, wherever they lie. -/
def CntsAt (N L : Nat) (K : Int) (l : List Nat) (w : World) : Prop := ∃ p c, CellAt N w (.slice p (cnts K l).length c) ∧ ReadsL (encInt .i64) w.heap.size w p (cnts K l) ∧ ∀ q, p = some q → L ≤ q.block
theorem CntsAt.over {N L : Nat} {K : Int} {l : List Nat} {w w' : World} (h : CntsAt N L K l w) (hb : Below w.heap.size w w') : CntsAt N L K l w' := by
  obtain ⟨p, c, h1, h2, h3⟩ := h
  exact ⟨p, c, h1.keep hb, h2.over hb (Nat.le_refl _), h3⟩
theorem reads_past {α : Type} {enc : α → Value} {N : Nat} {w : World} {p : Option Addr} {l : List α} (h : ReadsL enc N w p l) {M i : Nat} (hp : ∀ q, p = some q → q.block ≠ M) (u : Value) : ReadsL enc N (w.setCell ⟨M, i, none⟩ u) p l := by
  rcases h with h | ⟨b, off, e, g1, g2⟩
  · exact Or.inl h
  · have hb := hp _ e
    exact Or.inr ⟨b, off, e, g1, fun i hi => (World.cell?_setCell_other w ⟨M, _, none⟩ ⟨b, off + i, none⟩ _ (fun e => hb (congrArg Addr.block e).symm)).trans (g2 i hi)⟩
theorem CntsAt.lower {N L L' : Nat} {K : Int} {l : List Nat} {w : World} (h : CntsAt N L K l w) (hL : L' ≤ L) : CntsAt N L' K l w := by
  obtain ⟨p, c, h1, h2, h3⟩ := h
  exact ⟨p, c, h1, h2, fun q hq => Nat.le_trans hL (h3 q hq)⟩
theorem CntsAt.past {N L : Nat} {K : Int} {l : List Nat} {w : World} (h : CntsAt N L K l w) {M : Nat} (hN : M ≠ N) (hL : M < L) (u : Value) : CntsAt N L K l (w.setCell ⟨M, 0, none⟩ u) := by
  obtain ⟨p, c, h1, h2, h3⟩ := h
  refine ⟨p, c, h1.past hN u, ?_, h3⟩
  rcases h2 with h2 | ⟨b, off, e, g1, g2⟩
  · exact Or.inl h2
  · have hb := h3 _ e
    refine Or.inr ⟨b, off, e, by simpa using g1, fun i hi => (World.cell?_setCell_other w ⟨M, 0, none⟩ ⟨b, off + i, none⟩ _ (fun e => ?_)).trans (g2 i hi)⟩
    have : M = b := congrArg Addr.block e
    simp only at hb
    omega
set_option maxHeartbeats 400000 in
/-- What Scale runs. -/
theorem scaleRun_any (A : Nat) (a : Option Addr) (cap : Nat) (l : List Nat) (K : Int) (w : World) (hr : WideL l) (hl : ReadsL encF w.heap.size w a l) (hlen : l.length ≤ 1000) (hk1 : -9223372036854775808 ≤ K) (hk2 : K ≤ 9223372036854775807) (hT : TabAt 1 Lib.deBruijn64tab w) (hG : 1 < w.heap.size)
    (h0 : CellAt A w (.slice a l.length cap)) (h1 : CellAt (A + 1) w (.int .i64 K)) (h2 : CellAt (A + 2) w (.slice none 0 0)) :
    Calls Tryd.prog 22 #[.pointer (some ⟨A, 0, none⟩), .pointer (some ⟨A + 1, 0, none⟩), .pointer (some ⟨A + 2, 0, none⟩)] w fun e w' => EndOut (cntE K) l (.tuple #[]) e ∧ Kept (A + 2) w w' ∧ CntsAt (A + 2) w.heap.size K l w' := by
  have HT := Lib.hid hT
  have HL := Lib.hid hl
  have HR := Lib.hid hr
  have H2 := Lib.hid h2
  have hlt := h2.lt
  obtain ⟨c0, f0⟩ := h0
  obtain ⟨c1, f1⟩ := h1
  clear hT hl hr h2
  go_enter Tryd.func22, Tryd.ntmps22
  go_wp2_with fail
  refine (scaled_any a cap l K w HR.out HL.out hlen hk1 hk2 HT.out hG).mono ?_
  rintro e w1 ⟨ho, hb1⟩
  have H3 := Lib.hid (H2.out.keep hb1)
  have HB1 := Lib.hid (Kept.of_below hb1 (Nat.le_of_lt hlt))
  clear hb1
  rcases ho with ⟨hg, rfl, hrow⟩ | ⟨hg, rfl⟩
  · have e1 := Lib.hid (show cnts K l = l.map (cntN K) from if_pos hg)
    have HROW := Lib.hid (hrow.past (N := A + 2) (i := 0) (by omega) (.slice (some ⟨w.heap.size + 1, 0, none⟩) l.length l.length))
    obtain ⟨c2, f2⟩ := H3.out
    clear hrow
    go_wp2
    refine ⟨rfl, _, results_none rfl _ _ _, Or.inl ⟨hg, rfl⟩, HB1.out.set _, some ⟨w.heap.size + 1, 0, none⟩, l.length, ?_, ?_, fun q hq => by cases hq; simp⟩
    · rw [e1.out, List.length_map]
      exact H3.out.set _
    · rw [e1.out]
      refine RowIs.reads ?_
      rw [List.map_map]
      exact HROW.out
  · have e1 := Lib.hid (show cnts K l = [] from if_neg (by omega))
    go_wp2
    refine ⟨rfl, Or.inr ⟨hg, rfl⟩, HB1.out, none, 0, ?_, ?_, fun q hq => by cases hq⟩
    · rw [e1.out]; exact H3.out
    · rw [e1.out]; exact ReadsL.nil _ _ _ _
set_option maxHeartbeats 1000000 in
/-- What Step's run is taken back to. -/
theorem stopStep_any (A : Nat) (a : Option Addr) (cap : Nat) (l : List Nat) (w : World) (hr : WideL l) (hl : ReadsL encF w.heap.size w a l) (hlen : l.length ≤ 1000) (hT : TabAt 1 Lib.deBruijn64tab w) (hG : 1 < w.heap.size)
    (h0 : CellAt A w (.slice a l.length cap)) (h1 : CellAt (A + 1) w (.int .i64 0)) :
    Calls Tryd.prog 19 #[.func (.func 20) #[] #[.pointer (some ⟨A, 0, none⟩), .pointer (some ⟨A + 1, 0, none⟩)]] w
      fun e w' => e = .returned (.tuple #[.int .i64 (errAt noE l), .int .i64 (plcAt noE l)]) ∧ Below (A + 1) w w' ∧ CellAt (A + 1) w' (.int .i64 (stepK l)) := by
  have hm := hmf
  have hlt := h1.lt
  have hb := ((Below.refl w.heap.size w).alloc (Nat.le_refl _) (.cells #[.int .i64 0] 26)).alloc (by simp) (.cells #[.int .i64 0] 3)
  have hz := hb.size
  have HT := Lib.hid (tab_below hT hG hb)
  have HL := Lib.hid ((hl.on hb).mono hz)
  have HR := Lib.hid hr
  have H0 := Lib.hid (h0.keep hb)
  have H1 := Lib.hid (h1.keep hb)
  have HW0 : Hid (CellAt w.heap.size ((w.alloc (.cells #[.int .i64 0] 26)).alloc (.cells #[.int .i64 0] 3)) (.int .i64 0)) := Lib.hid ((CellAt.new w (.int .i64 0) 26).keep ((Below.refl _ _).alloc (Nat.le_refl _) _))
  have HW1 : Hid (CellAt (w.heap.size + 1) ((w.alloc (.cells #[.int .i64 0] 26)).alloc (.cells #[.int .i64 0] 3)) (.int .i64 0)) := Lib.hid (by simpa using CellAt.new (w.alloc (.cells #[.int .i64 0] 26)) (.int .i64 0) 3)
  have HB := Lib.hid (hb.mono (Nat.le_of_lt hlt))
  have hg2 : 1 < ((w.alloc (.cells #[.int .i64 0] 26)).alloc (.cells #[.int .i64 0] 3)).heap.size := by omega
  clear hT hl hr h0 h1 hb
  go_enter_defers Tryd.func19, Tryd.ntmps19
  go_wp2_with fail
  have hA2 : A + 1 ≠ w.heap.size := by omega
  have hA3 : A + 1 ≠ w.heap.size + 1 := by omega
  generalize w.heap.size = X at *
  generalize (w.alloc (.cells #[.int .i64 0] 26)).alloc (.cells #[.int .i64 0] 3) = wa at *
  refine (stepRun_any A a cap l wa HR.out HL.out hlen HT.out hg2 H0.out H1.out).mono ?_
  rintro e w1 ⟨ho, hb1, hc⟩
  have HW2 := Lib.hid (hb1.2 _ _ hA2 HW0.out)
  have HW3 := Lib.hid (hb1.2 _ _ hA3 HW1.out)
  have HB1 := Lib.hid (HB.out.trans hb1.1)
  have HC := Lib.hid hc
  clear hb1 hc
  rcases ho with ⟨hg, rfl⟩ | ⟨hg, rfl⟩
  · obtain ⟨c0, f0⟩ := HW2.out
    obtain ⟨c1, f1⟩ := HW3.out
    have r := Lib.hid (err_good noE l hg)
    go_wp2
    refine leaves_cons (f := 32) (args := #[.pointer (some ⟨X, 0, none⟩), .pointer (some ⟨X + 1, 0, none⟩)]) (by simp) (by simp [go_sem]) ?_
    refine (catch_idle ⟨X, 0, none⟩ ⟨X + 1, 0, none⟩ _).mono ?_
    rintro e u' w2 ⟨rfl, rfl, hb2⟩
    obtain ⟨c2, -⟩ := ((HW2.out.set (.int .i64 0)).past (M := X + 1) (by omega) (.int .i64 0)).keep hb2
    obtain ⟨c3, -⟩ := ((HW3.out.past (M := X) (by omega) (.int .i64 0)).set (.int .i64 0)).keep hb2
    refine ⟨.tuple #[.int .i64 0, .int .i64 0], by simp [results, Tryd.results19, go_sem, c2, c3], ret_ie r.out.1.symm r.out.2.symm, ?_, ?_⟩
    · exact ((HB1.out.setCell (p := ⟨X, 0, none⟩) (by show A + 1 ≤ X; omega) _).setCell (p := ⟨X + 1, 0, none⟩) (by show A + 1 ≤ X + 1; omega) _).trans (hb2.mono (by have := HC.out.lt; simp; omega))
    · exact ((HC.out.past (M := X) (by omega) _).past (M := X + 1) (by omega) _).keep hb2
  · go_wp2
    refine leaves_cons (f := 32) (args := #[.pointer (some ⟨X, 0, none⟩), .pointer (some ⟨X + 1, 0, none⟩)]) (by simp) (by simp [go_sem]) ?_
    refine (catch_stop X (X + 1) _ _ w1 (by omega) HW2.out HW3.out).mono ?_
    rintro e u' w2 ⟨rfl, rfl, hb2, ⟨c2, -⟩, ⟨c3, -⟩⟩
    refine ⟨.tuple #[.int .i64 (errAt noE l), .int .i64 (plcAt noE l)], by simp [results, Tryd.results19, go_sem, c2, c3], rfl, HB1.out.trans (hb2.mono (by omega)), HC.out.on hb2 hlt⟩
set_option maxHeartbeats 1000000 in
/-- What Scale's run is taken back to. -/
theorem stopScale_any (A : Nat) (a : Option Addr) (cap : Nat) (l : List Nat) (K : Int) (w : World) (hr : WideL l) (hl : ReadsL encF w.heap.size w a l) (hlen : l.length ≤ 1000) (hk1 : -9223372036854775808 ≤ K) (hk2 : K ≤ 9223372036854775807) (hT : TabAt 1 Lib.deBruijn64tab w) (hG : 1 < w.heap.size)
    (h0 : CellAt A w (.slice a l.length cap)) (h1 : CellAt (A + 1) w (.int .i64 K)) (h2 : CellAt (A + 2) w (.slice none 0 0)) :
    Calls Tryd.prog 19 #[.func (.func 22) #[] #[.pointer (some ⟨A, 0, none⟩), .pointer (some ⟨A + 1, 0, none⟩), .pointer (some ⟨A + 2, 0, none⟩)]] w
      fun e w' => e = .returned (.tuple #[.int .i64 (errAt (cntE K) l), .int .i64 (plcAt (cntE K) l)]) ∧ Below (A + 2) w w' ∧ CntsAt (A + 2) w.heap.size K l w' := by
  have hm := hmf
  have hlt := h2.lt
  have hb := ((Below.refl w.heap.size w).alloc (Nat.le_refl _) (.cells #[.int .i64 0] 26)).alloc (by simp) (.cells #[.int .i64 0] 3)
  have hz := hb.size
  have HT := Lib.hid (tab_below hT hG hb)
  have HL := Lib.hid ((hl.on hb).mono hz)
  have HR := Lib.hid hr
  have H0 := Lib.hid (h0.keep hb)
  have H1 := Lib.hid (h1.keep hb)
  have H2 := Lib.hid (h2.keep hb)
  have HW0 : Hid (CellAt w.heap.size ((w.alloc (.cells #[.int .i64 0] 26)).alloc (.cells #[.int .i64 0] 3)) (.int .i64 0)) := Lib.hid ((CellAt.new w (.int .i64 0) 26).keep ((Below.refl _ _).alloc (Nat.le_refl _) _))
  have HW1 : Hid (CellAt (w.heap.size + 1) ((w.alloc (.cells #[.int .i64 0] 26)).alloc (.cells #[.int .i64 0] 3)) (.int .i64 0)) := Lib.hid (by simpa using CellAt.new (w.alloc (.cells #[.int .i64 0] 26)) (.int .i64 0) 3)
  have HB := Lib.hid (hb.mono (Nat.le_of_lt hlt))
  have hg2 : 1 < ((w.alloc (.cells #[.int .i64 0] 26)).alloc (.cells #[.int .i64 0] 3)).heap.size := by omega
  clear hT hl hr h0 h1 h2 hb
  go_enter_defers Tryd.func19, Tryd.ntmps19
  go_wp2_with fail
  have hA2 : A + 2 ≠ w.heap.size := by omega
  have hA3 : A + 2 ≠ w.heap.size + 1 := by omega
  have hzX : w.heap.size + 2 ≤ ((w.alloc (.cells #[.int .i64 0] 26)).alloc (.cells #[.int .i64 0] 3)).heap.size := by simp
  generalize hX : w.heap.size = X at *
  have HX := Lib.hid hX
  clear hX
  generalize (w.alloc (.cells #[.int .i64 0] 26)).alloc (.cells #[.int .i64 0] 3) = wa at *
  refine (scaleRun_any A a cap l K wa HR.out HL.out hlen hk1 hk2 HT.out hg2 H0.out H1.out H2.out).mono ?_
  rintro e w1 ⟨ho, hb1, hc⟩
  have HW2 := Lib.hid (hb1.2 _ _ hA2 HW0.out)
  have HW3 := Lib.hid (hb1.2 _ _ hA3 HW1.out)
  have HB1 := Lib.hid (HB.out.trans hb1.1)
  have HC := Lib.hid hc
  clear hb1 hc
  rcases ho with ⟨hg, rfl⟩ | ⟨hg, rfl⟩
  · obtain ⟨c0, f0⟩ := HW2.out
    obtain ⟨c1, f1⟩ := HW3.out
    have r := Lib.hid (err_good (cntE K) l hg)
    go_wp2
    refine leaves_cons (f := 32) (args := #[.pointer (some ⟨X, 0, none⟩), .pointer (some ⟨X + 1, 0, none⟩)]) (by simp) (by simp [go_sem]) ?_
    refine (catch_idle ⟨X, 0, none⟩ ⟨X + 1, 0, none⟩ _).mono ?_
    rintro e u' w2 ⟨rfl, rfl, hb2⟩
    obtain ⟨c2, -⟩ := ((HW2.out.set (.int .i64 0)).past (M := X + 1) (by omega) (.int .i64 0)).keep hb2
    obtain ⟨c3, -⟩ := ((HW3.out.past (M := X) (by omega) (.int .i64 0)).set (.int .i64 0)).keep hb2
    refine ⟨.tuple #[.int .i64 0, .int .i64 0], by simp [results, Tryd.results19, go_sem, c2, c3], ret_ie r.out.1.symm r.out.2.symm, ?_, ?_⟩
    · exact ((HB1.out.setCell (p := ⟨X, 0, none⟩) (by show A + 2 ≤ X; omega) _).setCell (p := ⟨X + 1, 0, none⟩) (by show A + 2 ≤ X + 1; omega) _).trans (hb2.mono (by obtain ⟨_, _, hh, _⟩ := HC.out; have := hh.lt; simp; omega))
    · exact (((HC.out.past (M := X) (by omega) (by omega) _).past (M := X + 1) (by omega) (by omega) _).over hb2).lower (by have := HX.out; omega)
  · go_wp2
    refine leaves_cons (f := 32) (args := #[.pointer (some ⟨X, 0, none⟩), .pointer (some ⟨X + 1, 0, none⟩)]) (by simp) (by simp [go_sem]) ?_
    refine (catch_stop X (X + 1) _ _ w1 (by omega) HW2.out HW3.out).mono ?_
    rintro e u' w2 ⟨rfl, rfl, hb2, ⟨c2, -⟩, ⟨c3, -⟩⟩
    refine ⟨.tuple #[.int .i64 (errAt (cntE K) l), .int .i64 (plcAt (cntE K) l)], by simp [results, Tryd.results19, go_sem, c2, c3], rfl, HB1.out.trans (hb2.mono (by omega)), ?_⟩
    obtain ⟨p, c, g1, g2, g3⟩ := HC.out
    have e1 : cnts K l = [] := if_neg (by omega)
    rw [e1] at g1
    exact ⟨p, c, by rw [e1]; exact g1.on hb2 hlt, by rw [e1]; exact ReadsL.nil _ _ _ _, fun q hq => by have := g3 q hq; have := HX.out; omega⟩
theorem ret_iii {a b c d x y : Int} (h1 : a = b) (h2 : c = d) (h3 : x = y) : Ending.returned (.tuple #[.int .i64 a, .int .i64 c, .int .i64 x]) = .returned (.tuple #[.int .i64 b, .int .i64 d, .int .i64 y]) := by rw [h1, h2, h3]
/-- Step: the greatest step, or why and where there is none. -/
theorem step_any (a : Option Addr) (cap : Nat) (l : List Nat) (w : World) (hr : WideL l) (hl : ReadsL encF w.heap.size w a l) (hlen : l.length ≤ 1000) (hT : TabAt 1 Lib.deBruijn64tab w) :
    Calls Tryd.prog 8 #[.slice a l.length cap] w fun e w' => e = .returned (.tuple #[.int .i64 (stepK l), .int .i64 (errAt noE l), .int .i64 (plcAt noE l)]) ∧ Below w.heap.size w w' := by
  have hm := hmf
  have hG : 1 < w.heap.size := World.block_lt_of_cell? w _ (hT 0 (by decide))
  have hb := ((Below.refl w.heap.size w).alloc (Nat.le_refl _) (.cells #[.slice a l.length cap] 24)).alloc (by simp) (.cells #[.int .i64 0] 3)
  have hz := hb.size
  have HT := Lib.hid (tab_below hT hG hb)
  have HL := Lib.hid ((hl.on hb).mono hz)
  have HR := Lib.hid hr
  have H0 : Hid (CellAt w.heap.size ((w.alloc (.cells #[.slice a l.length cap] 24)).alloc (.cells #[.int .i64 0] 3)) (.slice a l.length cap)) := Lib.hid ((CellAt.new w (.slice a l.length cap) 24).keep ((Below.refl _ _).alloc (Nat.le_refl _) _))
  have H1 : Hid (CellAt (w.heap.size + 1) ((w.alloc (.cells #[.slice a l.length cap] 24)).alloc (.cells #[.int .i64 0] 3)) (.int .i64 0)) := Lib.hid (by simpa using CellAt.new (w.alloc (.cells #[.slice a l.length cap] 24)) (.int .i64 0) 3)
  have HB := Lib.hid hb
  clear hT hl hr hb
  go_enter Tryd.func8, Tryd.ntmps8
  go_wp2_with fail
  refine (stopStep_any w.heap.size a cap l _ HR.out HL.out hlen HT.out (by omega) H0.out H1.out).mono ?_
  rintro e w1 ⟨rfl, hb1, hc⟩
  have HB1 := Lib.hid (HB.out.trans (hb1.mono (by omega)))
  have HC := Lib.hid hc
  obtain ⟨c0, f0⟩ := hc
  clear hb1
  go_wp2
  obtain ⟨c2, -⟩ := HC.out.set (.int .i64 (stepK l))
  refine bodyPost_ret (v := .tuple #[.int .i64 (stepK l), .int .i64 (errAt noE l), .int .i64 (plcAt noE l)]) (by simp [results, Tryd.results8, go_sem, c2]) rfl ⟨rfl, HB1.out.setCell (p := ⟨w.heap.size + 1, 0, none⟩) (by simp) _⟩
theorem three_cells (w : World) (u v x : Value) (T1 T2 T3 : TypeId) (hT : True) : CellAt w.heap.size (((w.alloc (.cells #[u] T1)).alloc (.cells #[v] T2)).alloc (.cells #[x] T3)) u ∧ CellAt (w.heap.size + 1) (((w.alloc (.cells #[u] T1)).alloc (.cells #[v] T2)).alloc (.cells #[x] T3)) v ∧ CellAt (w.heap.size + 2) (((w.alloc (.cells #[u] T1)).alloc (.cells #[v] T2)).alloc (.cells #[x] T3)) x := by
  refine ⟨((CellAt.new w u T1).keep ((Below.refl _ _).alloc (Nat.le_refl _) _)).keep ((Below.refl _ _).alloc (Nat.le_refl _) _), ?_, ?_⟩
  · have := (CellAt.new (w.alloc (.cells #[u] T1)) v T2).keep ((Below.refl _ _).alloc (Nat.le_refl _) (.cells #[x] T3))
    simpa using this
  · have := CellAt.new ((w.alloc (.cells #[u] T1)).alloc (.cells #[v] T2)) x T3
    simpa using this
/-- What Scale tells. -/
def ScaleOut (K : Int) (l : List Nat) (e : Ending) (w' : World) : Prop :=
  ∃ p c, e = .returned (.tuple #[.slice p (cnts K l).length c, .int .i64 (errAt (cntE K) l), .int .i64 (plcAt (cntE K) l)]) ∧ ReadsL (encInt .i64) w'.heap.size w' p (cnts K l)
/-- Scale: the numbers of steps, or why and where there are none. -/
theorem scale_any (a : Option Addr) (cap : Nat) (l : List Nat) (K : Int) (w : World) (hr : WideL l) (hl : ReadsL encF w.heap.size w a l) (hlen : l.length ≤ 1000) (hk1 : -9223372036854775808 ≤ K) (hk2 : K ≤ 9223372036854775807) (hT : TabAt 1 Lib.deBruijn64tab w) :
    Calls Tryd.prog 9 #[.slice a l.length cap, .int .i64 K] w fun e w' => ScaleOut K l e w' ∧ Below w.heap.size w w' := by
  have hm := hmf
  have hG : 1 < w.heap.size := World.block_lt_of_cell? w _ (hT 0 (by decide))
  have hb := (((Below.refl w.heap.size w).alloc (Nat.le_refl _) (.cells #[.slice a l.length cap] 24)).alloc (by simp) (.cells #[.int .i64 K] 3)).alloc (by simp; omega) (.cells #[.slice none 0 0] 29)
  have hz := hb.size
  obtain ⟨g0, g1, g2⟩ := three_cells w (.slice a l.length cap) (.int .i64 K) (.slice none 0 0) 24 3 29 trivial
  have HT := Lib.hid (tab_below hT hG hb)
  have HL := Lib.hid ((hl.on hb).mono hz)
  have HR := Lib.hid hr
  have H0 := Lib.hid g0
  have H1 := Lib.hid g1
  have H2 := Lib.hid g2
  have HB := Lib.hid hb
  clear hT hl hr hb g0 g1 g2
  go_enter Tryd.func9, Tryd.ntmps9
  go_wp2_with fail
  refine (stopScale_any w.heap.size a cap l K _ HR.out HL.out hlen hk1 hk2 HT.out (by omega) H0.out H1.out H2.out).mono ?_
  rintro e w1 ⟨rfl, hb1, hc⟩
  have HB1 := Lib.hid (HB.out.trans (hb1.mono (by omega)))
  obtain ⟨p, c, hcell, hrd, hblk⟩ := hc
  have HC := Lib.hid hcell
  obtain ⟨c0, f0⟩ := hcell
  have HRD := Lib.hid (reads_past hrd (M := w.heap.size + 2) (i := 0) (fun q hq => by have := hblk q hq; simp at this; omega) (.slice p (cnts K l).length c))
  clear hb1 hrd hblk
  go_wp2
  obtain ⟨c2, -⟩ := HC.out.set (.slice p (cnts K l).length c)
  refine bodyPost_ret (v := .tuple #[.slice p (cnts K l).length c, .int .i64 (errAt (cntE K) l), .int .i64 (plcAt (cntE K) l)]) (by simp [results, Tryd.results9, go_sem, c2]) rfl ⟨⟨p, c, rfl, ?_⟩, HB1.out.setCell (p := ⟨w.heap.size + 2, 0, none⟩) (by simp) _⟩
  have := HRD.out
  simpa using this
/-- Fits: whether there are such numbers. -/
theorem fits_any (a : Option Addr) (cap : Nat) (l : List Nat) (K : Int) (w : World) (hr : WideL l) (hl : ReadsL encF w.heap.size w a l) (hlen : l.length ≤ 1000) (hk1 : -9223372036854775808 ≤ K) (hk2 : K ≤ 9223372036854775807) (hT : TabAt 1 Lib.deBruijn64tab w) :
    Calls Tryd.prog 13 #[.slice a l.length cap, .int .i64 K] w fun e w' => e = .returned (.bool (errAt (cntE K) l == 0)) ∧ Below w.heap.size w w' := by
  have H := Lib.hid (scale_any a cap l K w hr hl hlen hk1 hk2 hT)
  clear hr hl hT
  go_enter Tryd.func13, Tryd.ntmps13
  go_wp2_with fail
  refine H.out.mono ?_
  rintro e w1 ⟨⟨p, c, rfl, hrd⟩, hb1⟩
  have HB1 := Lib.hid hb1
  clear hrd hb1
  go_wp2
  go_ret
  exact ⟨rfl, HB1.out⟩
end Go.Proofs.YtopniihomjakoaaDoor
