/- Contracts of what goes over floats: what each function value takes, and how it ends where a float can't be. -/
import Derived.Test.YtopniihomjakoaaDoorQuantCode
import Derived.Test.YtopniihomjakoaaDoorList
import Derived.Deep.RegionWith
import Derived.Deep.RegionHeld3
namespace Go.Proofs.YtopniihomjakoaaDoor
open Go.RowKit Go.ChangeShapes FbitPure QuantPure
def encF (n : Nat) : Value := .float .f64 n
def encU (n : Nat) : Value := .int .u64 (n : Int)
def WideL (l : List Nat) : Prop := ∀ i (h : i < l.length), (l[i] : Int) ≤ 18446744073709551615
/-- What lies in a block of one cell. -/
def CellAt (N : Nat) (w : World) (v : Value) : Prop := w.cell? ⟨N, 0, none⟩ = some v ∧ w.frozen? ⟨N, 0, none⟩ = false
theorem CellAt.lt {N : Nat} {w : World} {v : Value} (h : CellAt N w v) : N < w.heap.size := World.block_lt_of_cell? w _ h.1
theorem CellAt.on {N M : Nat} {w w' : World} {v : Value} (h : CellAt N w v) (hb : Below M w w') (hM : N < M) : CellAt N w' v :=
  ⟨(hb.cell (by exact hM)).trans h.1, (hb.frozen (by exact hM)).trans h.2⟩
theorem CellAt.keep {N : Nat} {w w' : World} {v : Value} (h : CellAt N w v) (hb : Below w.heap.size w w') : CellAt N w' v := h.on hb h.lt
theorem CellAt.new (w : World) (v : Value) (T : TypeId) : CellAt w.heap.size (w.alloc (.cells #[v] T)) v := ⟨by simp, by simp⟩
theorem CellAt.set {N : Nat} {w : World} {v : Value} (h : CellAt N w v) (u : Value) : CellAt N (w.setCell ⟨N, 0, none⟩ u) u :=
  ⟨World.cell?_setCell_same _ _ _ h.1, by simpa using h.2⟩
theorem CellAt.past {N M : Nat} {w : World} {v : Value} (h : CellAt N w v) (hM : M ≠ N) (u : Value) : CellAt N (w.setCell ⟨M, 0, none⟩ u) v :=
  ⟨(World.cell?_setCell_other w ⟨M, 0, none⟩ ⟨N, 0, none⟩ _ (fun e => hM (congrArg Addr.block e))).trans h.1, by simpa using h.2⟩
/-- What the step's function value keeps: the step so far, and whether there is one. -/
theorem stepFn_any (i : Int) (neg : Bool) (m : Nat) (p : Int) (N : Nat) (k : Int) (fd : Bool) (w : World) (h0 : CellAt N w (.int .i64 k)) (h1 : CellAt (N + 1) w (.bool fd)) :
    Calls Tryd.prog 34 #[.int .i64 i, .agg #[.bool neg, .int .u64 (m : Int), .int .i64 p], .pointer (some ⟨N + 1, 0, none⟩), .pointer (some ⟨N, 0, none⟩)] w
      fun e w' => e = .returned (.int .i64 0) ∧ Below N w w' ∧ CellAt N w' (.int .i64 (stq k fd m p).1) ∧ CellAt (N + 1) w' (.bool (stq k fd m p).2) := by
  have l0 := h0.lt
  have l1 := h1.lt
  obtain ⟨c0, f0⟩ := h0
  obtain ⟨c1, f1⟩ := h1
  have hb := Lib.hid ((Below.refl w.heap.size w).alloc (Nat.le_refl _) (.cells #[.bool neg, .int .u64 (m : Int), .int .i64 p] 77))
  have HC0 : Hid (CellAt N w (.int .i64 k)) := Lib.hid ⟨c0, f0⟩
  have HC1 : Hid (CellAt (N + 1) w (.bool fd)) := Lib.hid ⟨c1, f1⟩
  have HN : Hid (Below N w (w.alloc (.cells #[.bool neg, .int .u64 (m : Int), .int .i64 p] 77)) ∧ CellAt N (w.alloc (.cells #[.bool neg, .int .u64 (m : Int), .int .i64 p] 77)) (.int .i64 k) ∧ CellAt (N + 1) (w.alloc (.cells #[.bool neg, .int .u64 (m : Int), .int .i64 p] 77)) (.bool fd)) :=
    Lib.hid ⟨hb.out.mono (by omega), HC0.out.keep hb.out, HC1.out.keep hb.out⟩
  have HS : Hid (∀ o, Below N w (((w.setCell ⟨N, 0, none⟩ (.int .i64 p)).setCell ⟨N + 1, 0, none⟩ (.bool true)).alloc o) ∧ CellAt N (((w.setCell ⟨N, 0, none⟩ (.int .i64 p)).setCell ⟨N + 1, 0, none⟩ (.bool true)).alloc o) (.int .i64 p) ∧ CellAt (N + 1) (((w.setCell ⟨N, 0, none⟩ (.int .i64 p)).setCell ⟨N + 1, 0, none⟩ (.bool true)).alloc o) (.bool true)) :=
    Lib.hid fun o => by
      have q0 := (HC0.out.set (.int .i64 p)).past (M := N + 1) (by omega) (.bool true)
      have q1 := (HC1.out.past (M := N) (by omega) (.int .i64 p)).set (.bool true)
      have qb := ((Below.refl N w).setCell (p := ⟨N, 0, none⟩) (Nat.le_refl _) (.int .i64 p)).setCell (p := ⟨N + 1, 0, none⟩) (by simp) (.bool true)
      exact ⟨qb.alloc (by simp; omega) o, q0.keep ((Below.refl _ _).alloc (Nat.le_refl _) o), q1.keep ((Below.refl _ _).alloc (Nat.le_refl _) o)⟩
  clear hb
  by_cases hm : m = 0
  · subst hm
    have r := Lib.hid (stq_off k fd 0 p (fun h => h.1 rfl))
    go_enter Tryd.func34, Tryd.ntmps34
    go_wp2
    go_ret
    exact ⟨rfl, HN.out.1, by rw [r.out.1]; exact HN.out.2.1, by rw [r.out.2]; exact HN.out.2.2⟩
  · have hz : ¬ (m : Int) = 0 := by omega
    cases fd
    · have r := Lib.hid (stq_on k false m p ⟨hm, Or.inl rfl⟩)
      go_enter Tryd.func34, Tryd.ntmps34
      go_wp2
      go_ret
      exact ⟨rfl, (HS.out _).1, by rw [r.out.1]; exact (HS.out _).2.1, by rw [r.out.2]; exact (HS.out _).2.2⟩
    · by_cases hp : p < k
      · have r := Lib.hid (stq_on k true m p ⟨hm, Or.inr hp⟩)
        go_enter Tryd.func34, Tryd.ntmps34
        go_wp2
        go_ret
        exact ⟨rfl, (HS.out _).1, by rw [r.out.1]; exact (HS.out _).2.1, by rw [r.out.2]; exact (HS.out _).2.2⟩
      · have r := Lib.hid (stq_off k true m p (fun h => hp (h.2.resolve_left (by simp))))
        go_enter Tryd.func34, Tryd.ntmps34
        go_wp2
        go_ret
        exact ⟨rfl, HN.out.1, by rw [r.out.1]; exact HN.out.2.1, by rw [r.out.2]; exact HN.out.2.2⟩
/-- One place of the block G is laid anew; beside that only new memory. -/
def PutAt (G i : Nat) (v : Value) (w w' : World) : Prop := ∃ u, Below w.heap.size w u ∧ Below u.heap.size (u.setCell ⟨G, i, none⟩ v) w'
theorem PutAt.below {G i M : Nat} {v : Value} {w w' : World} (h : PutAt G i v w w') (hM : M ≤ G) (hw : M ≤ w.heap.size) : Below M w w' := by
  obtain ⟨u, h1, h2⟩ := h
  exact ((h1.mono hw).setCell (p := ⟨G, i, none⟩) hM v).trans (h2.mono (Nat.le_trans hw h1.size))
theorem PutAt.cell {G i N : Nat} {v x : Value} {w w' : World} (h : PutAt G i v w w') (hN : G ≠ N) (hc : CellAt N w x) : CellAt N w' x := by
  obtain ⟨u, h1, h2⟩ := h
  have q := hc.keep h1
  have q2 : CellAt N (u.setCell ⟨G, i, none⟩ v) x := ⟨(World.cell?_setCell_other u ⟨G, i, none⟩ ⟨N, 0, none⟩ _ (fun e => hN (congrArg Addr.block e))).trans q.1, by simpa using q.2⟩
  exact q2.on h2 q.lt
theorem PutAt.row {G i : Nat} {v : Value} {w w' : World} {vs : List Value} (h : PutAt G i v w w') (hr : RowIs G w vs) (hi : i < vs.length) : RowIs G w' (vs.set i v) := by
  obtain ⟨u, h1, h2⟩ := h
  have hG := hr.lt (by omega)
  exact ((hr.on h1 hG).set hi v).on h2 (Nat.lt_of_lt_of_le hG h1.size)
theorem put_end {G i X : Nat} {v : Value} {w wa w' : World} (hX : Hid (w.heap.size = X)) (h : Hid (Below X w wa)) (h1 : Hid (Below wa.drew.heap.size wa.drew w')) : PutAt G i v w (w'.setCell ⟨G, i, none⟩ v) := by
  refine ⟨w', ?_, Below.refl _ _⟩
  rw [hX.out]
  have hs := h.out.size
  exact h.out.trans (((Below.refl X wa).drew).trans (h1.out.mono (by rw [hX.out] at hs; exact hs)))
set_option maxHeartbeats 2000000 in
/-- What the function value of Scale does: the number of steps, in its place. -/
theorem scaleFn_any (i n cap : Nat) (neg : Bool) (m : Nat) (p k : Int) (K S G : Nat) (v0 : Value) (w : World) (hi : i < n) (hn : n ≤ 1000) (hm : m < 18446744073709551616) (hp1 : -1200 ≤ p) (hp2 : p ≤ 1100) (hk1 : -9223372036854775808 ≤ k) (hk2 : k ≤ 9223372036854775807)
    (h0 : CellAt K w (.int .i64 k)) (h1 : CellAt S w (.slice (some ⟨G, 0, none⟩) n cap)) (hc : w.cell? ⟨G, i, none⟩ = some v0) (hz : w.frozen? ⟨G, i, none⟩ = false) :
    Calls Tryd.prog 35 #[.int .i64 (i : Int), .agg #[.bool neg, .int .u64 (m : Int), .int .i64 p], .pointer (some ⟨K, 0, none⟩), .pointer (some ⟨S, 0, none⟩)] w
      fun e w' => e = .returned (.int .i64 (stepsE neg m p k)) ∧ PutAt G i (.int .i64 (stepsN neg m p k)) w w' := by
  have l0 := h0.lt
  have l1 := h1.lt
  have l2 : G < w.heap.size := World.block_lt_of_cell? w _ hc
  obtain ⟨c0, f0⟩ := h0
  obtain ⟨c1, f1⟩ := h1
  clear f0 f1
  have hb0 := (Below.refl w.heap.size w).alloc (Nat.le_refl _) (.cells #[.bool neg, .int .u64 (m : Int), .int .i64 p] 77)
  have a0 := (hb0.cell (p := ⟨K, 0, none⟩) l0).trans c0
  have a1 := (hb0.cell (p := ⟨S, 0, none⟩) l1).trans c1
  have a2 := (hb0.cell (p := ⟨G, i, none⟩) l2).trans hc
  have a3 := (hb0.frozen (p := ⟨G, i, none⟩) l2).trans hz
  have x0 : (w.alloc (.cells #[.bool neg, .int .u64 (m : Int), .int .i64 p] 77)).cell? ⟨w.heap.size, 0, none⟩ = some (.bool neg) := by simp
  have x1 : (w.alloc (.cells #[.bool neg, .int .u64 (m : Int), .int .i64 p] 77)).cell? ⟨w.heap.size, 1, none⟩ = some (.int .u64 (m : Int)) := by simp
  have x2 : (w.alloc (.cells #[.bool neg, .int .u64 (m : Int), .int .i64 p] 77)).cell? ⟨w.heap.size, 2, none⟩ = some (.int .i64 p) := by simp
  have k0 : K < (w.alloc (.cells #[.bool neg, .int .u64 (m : Int), .int .i64 p] 77)).heap.size := by simp; omega
  have k1 : S < (w.alloc (.cells #[.bool neg, .int .u64 (m : Int), .int .i64 p] 77)).heap.size := by simp; omega
  have k2 : G < (w.alloc (.cells #[.bool neg, .int .u64 (m : Int), .int .i64 p] 77)).heap.size := by simp; omega
  have HB := Lib.hid hb0
  clear hb0 c0 c1 hc hz l0 l1 l2
  go_enter Tryd.func35, Tryd.ntmps35
  go_wp2
  generalize w.alloc (.cells #[.bool neg, .int .u64 (m : Int), .int .i64 p] 77) = wa at *
  generalize hX : w.heap.size = X at *
  have HX := Lib.hid hX
  clear hX
  go_region_with (first | (go_at_call 36; refine (steps_any _ _ _ _ hm hp1 hp2 hk1 hk2 _).mono ?_; rintro e w' ⟨rfl, hb1⟩; have d1 := (hb1.cell (p := ⟨S, 0, none⟩) (by first | exact k1 | (simp; exact k1))).trans a1; have d2 := (hb1.cell (p := ⟨G, i, none⟩) (by first | exact k2 | (simp; exact k2))).trans a2; have d3 := (hb1.frozen (p := ⟨G, i, none⟩) (by first | exact k2 | (simp; exact k2))).trans a3; have HB1 := Lib.hid hb1; clear hb1))
  all_goals
    go_wp2
    go_ret
    exact ⟨rfl, put_end HX HB HB1⟩
def stopV (E K : Int) : Value := .iface 73 (.agg #[.int .i64 E, .int .i64 K])
/-- How going over l ends. -/
def OverOut (E : Nat → Int) (l : List Nat) (e : Ending) : Prop :=
  (firstBad E l = l.length ∧ e = .returned (.tuple #[])) ∨ (firstBad E l < l.length ∧ e = .panicked [{ v := stopV (errAt E l) (plcAt E l), recovered := false }])
/-- At the head of a round, for the step. -/
def StepRel (N : Nat) (w0 : World) (l : List Nat) (k : Nat) (w : World) : Prop :=
  k ≤ firstBad noE l ∧ Below N w0 w ∧ CellAt N w (.int .i64 (fold (l.take k)).1) ∧ CellAt (N + 1) w (.bool (fold (l.take k)).2)
theorem StepRel.keep {N : Nat} {w0 w w' : World} {l : List Nat} {k : Nat} (h : StepRel N w0 l k w) (hb : Below w.heap.size w w') : StepRel N w0 l k w' :=
  ⟨h.1, h.2.1.trans (hb.mono (Nat.le_of_lt h.2.2.1.lt)), h.2.2.1.keep hb, h.2.2.2.keep hb⟩
set_option maxHeartbeats 1000000 in
theorem overStep_any (a : Option Addr) (cap : Nat) (l : List Nat) (N : Nat) (w : World) (hr : WideL l) (hl : ReadsL encF N w a l) (hlen : l.length ≤ 1000)
    (h0 : CellAt N w (.int .i64 0)) (h1 : CellAt (N + 1) w (.bool false)) (hT : TabAt 1 Lib.deBruijn64tab w) (hG : 1 < N) :
    Calls Tryd.prog 33 #[.slice a l.length cap, .func (.func 34) #[] #[.pointer (some ⟨N + 1, 0, none⟩), .pointer (some ⟨N, 0, none⟩)]] w
      fun e w' => OverOut noE l e ∧ Below N w w' ∧ (firstBad noE l = l.length → CellAt N w' (.int .i64 (fold l).1)) := by
  have HT := Lib.hid hT
  have HL := Lib.hid hl
  have HR := Lib.hid hr
  have hKl := first_le noE l
  have HS : Hid (StepRel N w l 0 w) := Lib.hid ⟨Nat.zero_le _, Below.refl _ _, h0, h1⟩
  clear hT hl hr h0 h1
  go_enter Tryd.func33, Tryd.ntmps33
  go_wp2
  go_loopw [10] (fun i wr => ∃ k : Nat, i = .int .i64 k ∧ Hid (StepRel N w l k wr)) (fun i _ => l.length - (intOf i).toNat)
  case atStart => exact ⟨0, rfl, HS⟩
  case round =>
    obtain ⟨k, rfl, HF⟩ := hrel
    have hkK := HF.out.1
    by_cases hlt : k < l.length
    · obtain ⟨b, off, rfl, hbN, hck0⟩ := HL.out.at hlt
      have hrk := HR.out k hlt
      have hck := (HF.out.2.1.cell (p := ⟨b, off + k, none⟩) hbN).trans hck0
      unfold encF at hck
      clear hck0
      have HTr := Lib.hid (tab_below HT.out hG HF.out.2.1)
      have HX : Hid (k = firstBad noE l → noE l[k] ≠ 0 ∧ errAt noE l = noE l[k] ∧ plcAt noE l = (k : Int)) := Lib.hid (fun e => ⟨by subst e; exact first_bad noE l hlt, err_bad noE l k hlt e.symm⟩)
      have HG : Hid (k < firstBad noE l → noE l[k] = 0) := Lib.hid (fun e => first_good noE l k hlt e)
      have HST : Hid (∀ w', k < firstBad noE l → Below N w w' → CellAt N w' (.int .i64 (stq (fold (l.take k)).1 (fold (l.take k)).2 (partM l[k]) (partE l[k])).1) → CellAt (N + 1) w' (.bool (stq (fold (l.take k)).1 (fold (l.take k)).2 (partM l[k]) (partE l[k])).2) → StepRel N w l (k + 1) w') :=
        Lib.hid fun w' e g1 g2 g3 => by
          refine ⟨e, g1, ?_, ?_⟩
          · rw [take_snoc l k hlt, fold_snoc, stp_stq]; exact g2
          · rw [take_snoc l k hlt, fold_snoc, stp_stq]; exact g3
      have hNlt := HF.out.2.2.1.lt
      generalize l[k] = x at *
      go_wp2_with fail
      refine (qparts_any x hrk _ HTr.out).mono ?_
      rintro e w1 ⟨rfl, hb1⟩
      have HF1 := Lib.hid (HF.out.keep hb1)
      have hb2 := Lib.hid ((Below.refl w1.heap.size w1).alloc (Nat.le_refl _) (.cells #[.bool (fneg x), .int .u64 (partM x : Int), .int .i64 (partE x)] 77))
      have HF2 := Lib.hid (HF1.out.keep hb2.out)
      clear hb1 hb2
      by_cases hkk : k < firstBad noE l
      · have t := HG.out hkk
        go_wp2_with fail
        refine (stepFn_any _ _ _ _ N _ _ _ HF2.out.2.2.1 HF2.out.2.2.2).mono ?_
        rintro e w3 ⟨rfl, hb3, q0, q1⟩
        have HN := Lib.hid (HST.out w3 hkk (HF2.out.2.1.trans hb3) q0 q1)
        clear hb3 q0 q1
        go_wp2
        go_roundw
        case rel => exact ⟨k + 1, by go_num, HN⟩
        case measure => simp [intOf]; omega
      · have hke := Lib.hid (show k = firstBad noE l by omega)
        have hx := HX.out hke.out
        have hne := hx.1
        have HE := Lib.hid hx.2
        have t : (noE x != 0) = true := by simp [hne]
        have HL' := Lib.hid hlt
        clear hx
        go_wp2
        refine ⟨rfl, Or.inr ⟨by have := hke.out; have := HL'.out; omega, by rw [HE.out.1, HE.out.2]; rfl⟩, HF2.out.2.1, fun h => ?_⟩
        have := hke.out
        have := HL'.out
        omega
    · have hke : k = l.length := by omega
      have hK : firstBad noE l = l.length := by omega
      subst hke
      have HC := HF.out.2.2.1
      rw [List.take_length] at HC
      have HC' := Lib.hid HC
      clear HC
      go_wp2
      exact ⟨rfl, _, results_none rfl _ _ _, Or.inl ⟨hK, rfl⟩, HF.out.2.1, fun _ => HC'.out⟩
end Go.Proofs.YtopniihomjakoaaDoor
