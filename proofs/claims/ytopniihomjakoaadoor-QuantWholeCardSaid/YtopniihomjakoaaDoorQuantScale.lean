/- Contracts of what goes over floats to scale them, and of what makes the step and the numbers of steps. -/
import Derived.Test.YtopniihomjakoaaDoorQuantOver
namespace Go.Proofs.YtopniihomjakoaaDoor
open Go.RowKit Go.ChangeShapes FbitPure QuantPure
def encC (k : Int) (b : Nat) : Value := .int .i64 (cntN k b)
theorem fill_step {α : Type} (l : List α) (f : α → Value) (z : Value) (k : Nat) (hk : k < l.length) :
    ((l.take k).map f ++ List.replicate (l.length - k) z).set k (f l[k]) = (l.take (k + 1)).map f ++ List.replicate (l.length - (k + 1)) z := by
  have e1 : ((l.take k).map f).length = k := by simp; omega
  have e2 : l.length - k = (l.length - (k + 1)) + 1 := by omega
  rw [List.set_append_right _ _ (by omega), e1, Nat.sub_self, e2, List.replicate_succ, List.set_cons_zero, take_snoc l k hk, List.map_append, List.append_assoc]
  rfl
/-- At the head of a round, for the numbers of steps. -/
def ScaleRel (M : Nat) (w0 : World) (l : List Nat) (K : Int) (i : Nat) (w : World) : Prop :=
  i ≤ firstBad (cntE K) l ∧ Below M w0 w ∧ CellAt M w (.int .i64 K) ∧ CellAt (M + 2) w (.slice (some ⟨M + 1, 0, none⟩) l.length l.length) ∧ RowIs (M + 1) w ((l.take i).map (encC K) ++ List.replicate (l.length - i) (.int .i64 0))
theorem ScaleRel.keep {M : Nat} {w0 w w' : World} {l : List Nat} {K : Int} {i : Nat} (h : ScaleRel M w0 l K i w) (hb : Below w.heap.size w w') : ScaleRel M w0 l K i w' :=
  ⟨h.1, h.2.1.trans (hb.mono (Nat.le_of_lt h.2.2.1.lt)), h.2.2.1.keep hb, h.2.2.2.1.keep hb, h.2.2.2.2.on hb (by have := h.2.2.2.1.lt; omega)⟩
theorem ScaleRel.at {M : Nat} {w0 w : World} {l : List Nat} {K : Int} {i : Nat} (h : ScaleRel M w0 l K i w) (hi : i < l.length) : w.cell? ⟨M + 1, i, none⟩ = some (.int .i64 0) ∧ w.frozen? ⟨M + 1, i, none⟩ = false := by
  have hlen : i < ((l.take i).map (encC K) ++ List.replicate (l.length - i) (Value.int .i64 0)).length := by simp; omega
  obtain ⟨h1, h2⟩ := h.2.2.2.2 i hlen
  refine ⟨?_, h2⟩
  rw [h1, List.getElem_append_right (by simp; omega)]
  simp
theorem ScaleRel.put {M : Nat} {w0 w w' : World} {l : List Nat} {K : Int} {i : Nat} (h : ScaleRel M w0 l K i w) (hi : i < l.length) (hp : PutAt (M + 1) i (encC K l[i]) w w') :
    Below M w0 w' ∧ (i < firstBad (cntE K) l → ScaleRel M w0 l K (i + 1) w') := by
  have hb := h.2.1.trans (hp.below (by omega) (Nat.le_of_lt h.2.2.1.lt))
  refine ⟨hb, fun e => ⟨e, hb, hp.cell (by omega) h.2.2.1, hp.cell (by omega) h.2.2.2.1, ?_⟩⟩
  have := hp.row h.2.2.2.2 (by simp; omega)
  rwa [fill_step l (encC K) _ i hi] at this
set_option maxHeartbeats 1000000 in
theorem overScale_any (a : Option Addr) (cap : Nat) (l : List Nat) (K : Int) (M : Nat) (w : World) (hr : WideL l) (hl : ReadsL encF M w a l) (hlen : l.length ≤ 1000) (hk1 : -9223372036854775808 ≤ K) (hk2 : K ≤ 9223372036854775807)
    (hs : ScaleRel M w l K 0 w) (hT : TabAt 1 Lib.deBruijn64tab w) (hG : 1 < M) :
    Calls Tryd.prog 33 #[.slice a l.length cap, .func (.func 35) #[] #[.pointer (some ⟨M, 0, none⟩), .pointer (some ⟨M + 2, 0, none⟩)]] w
      fun e w' => OverOut (cntE K) l e ∧ Below M w w' ∧ (firstBad (cntE K) l = l.length → CellAt (M + 2) w' (.slice (some ⟨M + 1, 0, none⟩) l.length l.length) ∧ RowIs (M + 1) w' (l.map (encC K))) := by
  have HT := Lib.hid hT
  have HL := Lib.hid hl
  have HR := Lib.hid hr
  have hKl := first_le (cntE K) l
  have HS : Hid (ScaleRel M w l K 0 w) := Lib.hid hs
  clear hT hl hr hs
  go_enter Tryd.func33, Tryd.ntmps33
  go_wp2
  go_loopw [10] (fun i wr => ∃ k : Nat, i = .int .i64 k ∧ Hid (ScaleRel M w l K k wr)) (fun i _ => l.length - (intOf i).toNat)
  case atStart => exact ⟨0, rfl, HS⟩
  case round =>
    obtain ⟨k, rfl, HF⟩ := hrel
    have hkK := HF.out.1
    by_cases hlt : k < l.length
    · obtain ⟨b, off, rfl, hbN, hck0⟩ := HL.out.at hlt
      have hrk := HR.out k hlt
      have hck := (HF.out.2.1.cell (p := ⟨b, off + k, none⟩) hbN).trans hck0
      unfold encF at hck
      clear hck0
      have HTr := Lib.hid (tab_below HT.out hG HF.out.2.1)
      have HX : Hid (k = firstBad (cntE K) l → cntE K l[k] ≠ 0 ∧ errAt (cntE K) l = cntE K l[k] ∧ plcAt (cntE K) l = (k : Int)) := Lib.hid (fun e => ⟨by subst e; exact first_bad (cntE K) l hlt, err_bad (cntE K) l k hlt e.symm⟩)
      have HG : Hid (k < firstBad (cntE K) l → cntE K l[k] = 0) := Lib.hid (fun e => first_good (cntE K) l k hlt e)
      have HL' := Lib.hid hlt
      have HPUT : Hid (∀ w2 w3, ScaleRel M w l K k w2 → PutAt (M + 1) k (encC K l[k]) w2 w3 → Below M w w3 ∧ (k < firstBad (cntE K) l → ScaleRel M w l K (k + 1) w3)) := Lib.hid fun w2 w3 g1 g2 => g1.put hlt g2
      have hNlt := HF.out.2.2.1.lt
      unfold encC at HPUT
      generalize l[k] = x at *
      have hpb := part_bounds x
      go_wp2_with fail
      refine (qparts_any x hrk _ HTr.out).mono ?_
      rintro e w1 ⟨rfl, hb1⟩
      have HF1 := Lib.hid (HF.out.keep hb1)
      have hb2 := Lib.hid ((Below.refl w1.heap.size w1).alloc (Nat.le_refl _) (.cells #[.bool (fneg x), .int .u64 (partM x : Int), .int .i64 (partE x)] 77))
      have HF2 := Lib.hid (HF1.out.keep hb2.out)
      clear hb1 hb2
      by_cases hno : noE x = 0
      · obtain ⟨q1, q2⟩ := cnt_fneg K x hno
        have Q1 := Lib.hid q1
        have Q2 := Lib.hid q2
        clear q1 q2
        go_wp2_with fail
        obtain ⟨z1, z2⟩ := HF2.out.at HL'.out
        refine (scaleFn_any k l.length l.length (fneg x) (partM x) (partE x) K M (M + 2) (M + 1) _ _ HL'.out hlen (by omega) hpb.2.1 hpb.2.2 hk1 hk2 HF2.out.2.2.1 HF2.out.2.2.2.1 z1 z2).mono ?_
        rw [← Q1.out, ← Q2.out]
        rintro e w3 ⟨rfl, hp3⟩
        have hn := HPUT.out _ _ HF2.out hp3
        have HB3 := Lib.hid hn.1
        have HN3 := Lib.hid hn.2
        clear hn hp3 z1 z2
        by_cases hkk : k < firstBad (cntE K) l
        · have t : (cntE K x != 0) = false := by simp [HG.out hkk]
          have HN := Lib.hid (HN3.out hkk)
          go_wp2
          go_roundw
          case rel => exact ⟨k + 1, by go_num, HN⟩
          case measure => simp [intOf]; omega
        · have hke := Lib.hid (show k = firstBad (cntE K) l by omega)
          have hx := HX.out hke.out
          have HE := Lib.hid hx.2
          have t : (cntE K x != 0) = true := by simp [hx.1]
          clear hx
          go_wp2
          refine ⟨rfl, Or.inr ⟨by have := hke.out; have := HL'.out; omega, by rw [HE.out.1, HE.out.2]; rfl⟩, HB3.out, fun h => ?_⟩
          have := hke.out
          have := HL'.out
          omega
      · have e0 := cnt_err K x hno
        have hke := Lib.hid (show k = firstBad (cntE K) l by
          rcases Nat.lt_or_eq_of_le hkK with h | h
          · have := HG.out h; omega
          · exact h)
        have HE := Lib.hid (HX.out hke.out).2
        rw [e0] at HE
        have t : (noE x != 0) = true := by simp [hno]
        clear e0
        go_wp2
        refine ⟨rfl, Or.inr ⟨by have := hke.out; have := HL'.out; omega, by rw [HE.out.1, HE.out.2]; rfl⟩, HF2.out.2.1, fun h => ?_⟩
        have := hke.out
        have := HL'.out
        omega
    · have hke : k = l.length := by omega
      have hK : firstBad (cntE K) l = l.length := by omega
      subst hke
      go_wp2
      refine ⟨rfl, _, results_none rfl _ _ _, Or.inl ⟨hK, rfl⟩, HF.out.2.1, fun _ => ⟨HF.out.2.2.2.1, ?_⟩⟩
      have h := HF.out.2.2.2.2
      rwa [List.take_length, Nat.sub_self, List.replicate_zero, List.append_nil] at h
end Go.Proofs.YtopniihomjakoaaDoor
