/- Texts that the laws of this seat stand on, part 22. -/
import Derived.Test.YtdbebebhldldmaaGreatDoorPk21
import Derived.Test.YtdbebebhldldmaaGreatDoorPk0
import Derived.Deep.QuietTactic
import Derived.BigQuiet
import Derived.Test.YtdbebebhldldmaaGreatDoorPk10
import Derived.Test.YtdbebebhldldmaaGreatDoorPk14
import Derived.Test.YtdbebebhldldmaaGreatDoorPk20
import Derived.Test.YtdbebebhldldmaaGreatDoorPk12
/- Contracts for lists of floats as weights: the program's, and the document's own. -/
namespace Go.Proofs.YtdbebebhldldmaaGreatDoor
open Go.RowKit Go.ChangeShapes FbitPure FintPure
theorem fill_step {α : Type} (l : List α) (f : α → Value) (z : Value) (k : Nat) (hk : k < l.length) :
    ((l.take k).map f ++ List.replicate (l.length - k) z).set k (f l[k]) = (l.take (k + 1)).map f ++ List.replicate (l.length - (k + 1)) z := by
  have e1 : ((l.take k).map f).length = k := by simp; omega
  have e2 : l.length - k = (l.length - (k + 1)) + 1 := by omega
  rw [List.set_append_right _ _ (by omega), e1, Nat.sub_self, e2, List.replicate_succ, List.set_cons_zero, take_snoc l k hk, List.map_append, List.append_assoc]
  rfl
/-- At the head of a round of Weights. -/
def FillRel (w0 : World) (l : List Nat) (K k : Nat) (w : World) : Prop :=
  k ≤ K ∧ Below w0.heap.size w0 w ∧ RowIs w0.heap.size w ((l.take k).map encW ++ List.replicate (l.length - k) (.int .i64 0))
def WOut (l : List Nat) (K : Nat) (e : Ending) (w' : World) : Prop :=
  (K = l.length ∧ ∃ p cap, e = .returned (.tuple #[.slice p l.length cap, .int .i64 0, .int .i64 0]) ∧ ReadsL encW w'.heap.size w' p l) ∨
  (∃ h : K < l.length, e = .returned (.tuple #[.slice none 0 0, .int .i64 (weightE l[K]), .int .i64 (K : Int)]))
theorem FillRel.at {w0 w : World} {l : List Nat} {K k : Nat} (h : FillRel w0 l K k w) (hk : k < l.length) : w.cell? ⟨w0.heap.size, k, none⟩ = some (.int .i64 0) ∧ w.frozen? ⟨w0.heap.size, k, none⟩ = false := by
  have hlen : k < ((l.take k).map encW ++ List.replicate (l.length - k) (Value.int .i64 0)).length := by simp; omega
  obtain ⟨h1, h2⟩ := h.2.2 k hlen
  refine ⟨?_, h2⟩
  rw [h1, List.getElem_append_right (by simp; omega)]
  simp
theorem FillRel.step {w0 w : World} {l : List Nat} {K k : Nat} (h : FillRel w0 l K k w) (hk : k < l.length) (hK : k < K) : FillRel w0 l K (k + 1) (w.setCell ⟨w0.heap.size, k, none⟩ (encW l[k])) := by
  refine ⟨hK, h.2.1.setCell (Nat.le_refl _) _, ?_⟩
  have := h.2.2.set (k := k) (by simp; omega) (encW l[k])
  rwa [fill_step l encW _ k hk] at this
theorem ret_sii {k l : IntKind} {s : Value} {c d m n : Int} (h2 : c = d) (h3 : m = n) : Ending.returned (.tuple #[s, .int k c, .int l m]) = .returned (.tuple #[s, .int k d, .int l n]) := by rw [h2, h3]
set_option maxHeartbeats 1000000 in
theorem weights_any (a : Option Addr) (cap : Nat) (l : List Nat) (K : Nat) (w : World) (hr : WideL l) (hl : ReadsL encF w.heap.size w a l) (hlen : l.length ≤ 1000) (hK : FirstBad l K) (hT : TabAt 4 Lib.deBruijn64tab w) :
    Calls Tryz.prog 42 #[.slice a l.length cap] w fun e w' => WOut l K e w' ∧ Below w.heap.size w w' := by
  have HT := Lib.hid hT
  have HL := Lib.hid hl
  have HR := Lib.hid hr
  have HK := Lib.hid hK
  have hKl := hK.le
  have hmk := makeRow (P := Tryz.prog) (T := 73) (E := 2) (z := .int .i64 0) (c := 8) Tryz.underlying73 (by kernel_rfl) (by decide) rfl l.length (by omega) w
  have hB0 := (Below.refl w.heap.size w).alloc (Nat.le_refl _) (.cells (madeCells #[.int .i64 0] l.length) 2)
  have HS : Hid (FillRel w l K 0 (w.alloc (.cells (madeCells #[.int .i64 0] l.length) 2))) := Lib.hid ⟨Nat.zero_le _, hB0, by simpa using rowIs_made w (.int .i64 0) l.length 2⟩
  clear hT hl hr hK hB0
  go_enter Tryz.func42, Tryz.ntmps42
  go_wp2
  go_loopw [15] (fun i wr => ∃ k : Nat, i = .int .i64 k ∧ Hid (FillRel w l K k wr)) (fun i _ => l.length - (intOf i).toNat)
  case atStart => exact ⟨0, rfl, HS⟩
  case round =>
    obtain ⟨k, rfl, HF⟩ := hrel
    have hkK := HF.out.1
    by_cases hlt : k < l.length
    · obtain ⟨b, off, rfl, hbN, hck0⟩ := HL.out.at hlt
      have hrk := HR.out k hlt
      have hck := (HF.out.2.1.cell (p := ⟨b, off + k, none⟩) hbN).trans hck0
      have HTr := Lib.hid (tab_on HT.out (by decide) HF.out.2.1)
      obtain ⟨hcd, hfd⟩ := HF.out.at hlt
      have HX : Hid (k = K → weightE l[k] ≠ 0) := Lib.hid (fun e => by subst e; exact HK.out.bad hlt)
      have HG : Hid (k < K → weightE l[k] = 0) := Lib.hid (fun e => HK.out.good k hlt e)
      have HST : Hid (k < K → FillRel w l K (k + 1) (wr.setCell ⟨w.heap.size, k, none⟩ (encW l[k]))) := Lib.hid fun e => HF.out.step hlt e
      have HO : Hid (∀ w', k = K → WOut l K (.returned (.tuple #[.slice none 0 0, .int .i64 (weightE l[k]), .int .i64 (k : Int)])) w') := Lib.hid fun w' e => by subst e; exact Or.inr ⟨hlt, rfl⟩
      have hbel := Lib.hid HF.out.2.1
      unfold encF at hck
      clear hck0
      generalize l[k] = x at *
      by_cases hkk : k < K
      · have hw0 := HG.out hkk
        have HN := Lib.hid (HST.out hkk)
        go_wp2_with (first | (go_at_call 69; refine (fweight_any _ hrk _ HTr.out).mono ?_; rintro e w' ⟨rfl, rfl⟩))
        go_roundw
        case rel => exact ⟨k + 1, by go_num, HN⟩
        case measure => simp [intOf]; omega
      · have hke : k = K := by omega
        have t : (weightE x != 0) = true := by simp [HX.out hke]
        have HO' := Lib.hid (HO.out wr hke)
        clear hke
        go_wp2_with (first | (go_at_call 69; refine (fweight_any _ hrk _ HTr.out).mono ?_; rintro e w' ⟨rfl, rfl⟩))
        go_ret3
        exact ⟨HO'.out, hbel.out⟩
    · have hke : k = l.length := by omega
      have hKe : K = l.length := by omega
      subst hke
      go_wp2
      go_ret3
      refine ⟨Or.inl ⟨hKe, _, _, rfl, ?_⟩, HF.out.2.1⟩
      have h := HF.out.2.2
      rw [List.take_length, Nat.sub_self, List.replicate_zero, List.append_nil] at h
      exact h.reads
def ROut (l : List Nat) (K : Nat) (e : Ending) (w' : World) : Prop :=
  (K = l.length ∧ ∃ p cap, e = .returned (.agg #[.slice p l.length cap, .int .i64 0, .int .i64 0]) ∧ ReadsL encW w'.heap.size w' p l) ∨
  (∃ h : K < l.length, e = .returned (.agg #[.slice none 0 0, .int .i64 (weightE l[K]), .int .i64 (K : Int)]))
/-- At the head of a round of the document's Weights. -/
def WtRel (N : Nat) (w0 : World) (l : List Nat) (K k : Nat) (v : Value) (w : World) : Prop :=
  k ≤ K ∧ GrowRel encW 2 w0 (l.take k) v w ∧ ThreeAt N w (.slice none 0 0) (.int .i64 0) (.int .i64 0) ∧ N < w0.heap.size
theorem info_int64F : (Tryz.prog.info? 2).map (fun i => (i.zero, i.size, i.bytes)) = some (some (.int .i64 0), 1, 8) := by kernel_rfl
theorem WtRel.on {N : Nat} {w0 w w' : World} {l : List Nat} {K k : Nat} {v : Value} (h : WtRel N w0 l K k v w) (hb : Below w.heap.size w w') : WtRel N w0 l K k v w' :=
  ⟨h.1, h.2.1.on hb, h.2.2.1.on hb h.2.2.1.lt, h.2.2.2⟩
theorem WtRel.step {N : Nat} {w0 w w' : World} {l : List Nat} {K k : Nat} {v v' : Value} {o : Obj} (h : WtRel N w0 l K k v w) (hk : k < l.length) (hK : k < K) (h1 : w'.ownsRow w0.heap.size 2 1 v' (k + 1) ((l.take k).map encW ++ [encW l[k]])) (hg : (w.alloc o).grownBy w' v.ownBlock) :
    WtRel N w0 l K (k + 1) v' w' := by
  have hl : (l.take k).length = k := by simp; omega
  have h2 := h.2.1.step (o := o) l[k] (by rw [hl]; exact h1) hg
  rw [← take_snoc l k hk] at h2
  have hgr : Below (N + 1) w w' := by
    have b1 : Below (N + 1) w (w.alloc o) := (Below.refl _ _).alloc (by have := h.2.2.1.lt; omega) o
    exact b1.grown hg (by have := h.2.2.1.lt; simp; omega) fun j hj => by have := (h.2.1.2.lt j hj).1; have := h.2.2.2; omega
  exact ⟨hK, h2, h.2.2.1.on hgr (by omega), h.2.2.2⟩
theorem agg_sii {k l : IntKind} {s : Value} {c d m n : Int} (h2 : c = d) (h3 : m = n) : Ending.returned (.agg #[s, .int k c, .int l m]) = .returned (.agg #[s, .int k d, .int l n]) := by rw [h2, h3]
set_option maxHeartbeats 1000000 in
theorem refWeights_any (a : Option Addr) (cap : Nat) (l : List Nat) (K : Nat) (w : World) (hr : WideL l) (hl : ReadsL encU w.heap.size w a l) (hlen : l.length ≤ 1000) (hK : FirstBad l K) :
    Calls Tryz.prog 44 #[.slice a l.length cap] w fun e w' => ROut l K e w' ∧ Below w.heap.size w w' := by
  have HR := Lib.hid hr
  have HK := Lib.hid hK
  have hKl := hK.le
  obtain ⟨i0, hi, hz0, hz1, hz2⟩ := info_parts info_int64F
  have hW0 : Below w.heap.size w (w.alloc (.cells #[.slice none 0 0, .int .i64 0, .int .i64 0] 88)) := (Below.refl _ _).alloc (Nat.le_refl _) _
  have HS : Hid (WtRel w.heap.size (w.alloc (.cells #[.slice none 0 0, .int .i64 0, .int .i64 0] 88)) l K 0 (.slice none 0 0) (w.alloc (.cells #[.slice none 0 0, .int .i64 0, .int .i64 0] 88))) :=
    Lib.hid ⟨Nat.zero_le _, GrowRel.start _ _ _, ThreeAt.new _ _ _ _ _, by simp⟩
  have HL := Lib.hid (hl.on hW0)
  have HB0 := Lib.hid hW0
  clear hl hr hK hW0
  go_enter Tryz.func44, Tryz.ntmps44
  go_wp2
  generalize (w.alloc (.cells #[.slice none 0 0, .int .i64 0, .int .i64 0] 88)) = W0 at *
  go_loopw [3, 4] (fun v i wr => ∃ k : Nat, i = .int .i64 k ∧ Hid (WtRel w.heap.size W0 l K k v wr)) (fun _ i _ => l.length - (intOf i).toNat)
  case atStart => exact ⟨0, rfl, HS⟩
  case round =>
    obtain ⟨k, rfl, HF⟩ := hrel
    have hkK := HF.out.1
    have hBr := Lib.hid (HB0.out.trans (HF.out.2.1.1.mono HB0.out.size))
    by_cases hlt : k < l.length
    · obtain ⟨b, off, rfl, hbN, hck0⟩ := HL.out.at hlt
      have hrk := HR.out k hlt
      have hck := (hBr.out.cell (p := ⟨b, off + k, none⟩) hbN)
      have hcw := (HB0.out.cell (p := ⟨b, off + k, none⟩) hbN)
      rw [← hcw, hck0] at hck
      unfold encU at hck
      have hl : (l.take k).length = k := by simp; omega
      have HX : Hid (k = K → weightE l[k] ≠ 0) := Lib.hid (fun e => by subst e; exact HK.out.bad hlt)
      have HG : Hid (k < K → weightE l[k] = 0 ∧ weightN l[k] = weightN l[k]) := Lib.hid (fun e => ⟨HK.out.good k hlt e, rfl⟩)
      have HO : Hid (∀ w', k = K → ROut l K (.returned (.agg #[.slice none 0 0, .int .i64 (weightE l[k]), .int .i64 (k : Int)])) w') := Lib.hid fun w' e => by subst e; exact Or.inr ⟨hlt, rfl⟩
      have HST : Hid (∀ w2 v' w' o, WtRel w.heap.size W0 l K k u3 w2 → k < K → w'.ownsRow W0.heap.size 2 1 v' (k + 1) ((l.take k).map encW ++ [.int .i64 (weightN l[k])]) → (w2.alloc o).grownBy w' u3.ownBlock → WtRel w.heap.size W0 l K (k + 1) v' w') :=
        Lib.hid fun w2 v' w' o h hk h1 h2 => h.step hlt hk h1 h2
      clear hck0 hcw
      generalize l[k] = x at *
      go_wp2_with fail
      refine (refFWeight_any x hrk _).mono ?_
      rintro e w1 ⟨rfl, hb1⟩
      have HB1 := Lib.hid hb1
      have hs1 := hb1.size
      have hf1 := HF.out.on hb1
      have hf2 := hf1.on ((Below.refl _ _).alloc (Nat.le_refl _) (.cells #[.int .i64 (weightN x), .int .i64 (weightE x)] 130))
      have HF1 := Lib.hid hf1
      have HF2 := Lib.hid hf2
      have hsz := hf1.2.1.1.size
      have hNz := hf1.2.2.2
      obtain ⟨c0, c1, c2, f0, f1, f2⟩ := hf1.2.2.1
      clear hb1 hf1 hf2
      by_cases hkk : k < K
      · have t : (weightE x != 0) = false := by simp [(HG.out hkk).1]
        clear c0 c1 c2 f0 f1 f2
        go_wp2_with (first
          | (at_builtin; refine wpList_append_own _ rfl _ _ 73 rfl W0.heap.size 2 i0 (.int .i64 0) 1 8 Tryz.underlying73 hi hz0 hz1 hz2 rfl (by decide) u3 (l.take k).length ((l.take k).map encW) rfl (HF2.out.2.1.2.alloc _) ⟨w1.heap.size + 1, 0, none⟩ 1 1 [.int .i64 (weightN x)] rfl rfl (one_newsAt (by simp)) (by intro u hu; simp at hu; subst hu; rfl) (by unfold maxLen; omega) (by omega) (by simp; omega) ?_))
        intro v' w2 hown hgrow _
        rw [← List.map_take] at hown
        have HN := Lib.hid (HST.out _ v' w2 _ HF2.out hkk hown hgrow)
        clear hown hgrow
        go_wp2
        go_roundw
        case rel => exact ⟨k + 1, by go_num, HN⟩
        case measure => simp [intOf]; omega
      · have hke := Lib.hid (show k = K by omega)
        have t : (weightE x != 0) = true := by simp [HX.out hke.out]
        have HO' := HO.out
        have hz := HF1.out.2.2.1.lt
        go_wp2
        have hq := ((HF1.out.2.2.1.set (.slice none 0 0) (.int .i64 (weightE x)) (.int .i64 (k : Int))))
        obtain ⟨s0, s1, s2, -, -, -⟩ := hq.on ((Below.refl _ _).alloc (Nat.le_refl _) (.cells #[.int .i64 (weightN x), .int .i64 (weightE x)] 130)) hq.lt
        refine bodyPost_ret (v := .agg #[.slice none 0 0, .int .i64 (weightE x), .int .i64 (k : Int)]) (by simp [results, Tryz.results44, go_sem, s0, s1, s2]) rfl ⟨HO' _ hke.out, ?_⟩
        exact ((((hBr.out.trans (HB1.out.mono hBr.out.size)).setCell (p := ⟨w.heap.size, 0, none⟩) (Nat.le_refl _) _).setCell (p := ⟨w.heap.size, 1, none⟩) (Nat.le_refl _) _).setCell (p := ⟨w.heap.size, 2, none⟩) (Nat.le_refl _) _).alloc (by simp; omega) _
    · have hke : k = l.length := by omega
      have hKe : K = l.length := by omega
      subst hke
      obtain ⟨c0, c1, c2, f0, f1, f2⟩ := HF.out.2.2.1
      obtain ⟨p, cap', rfl, hrd, -⟩ := HF.out.2.1.reads
      have hW := HF.out.2.1.2
      have hN := HF.out.2.2.2
      rw [List.take_length] at hrd hW ⊢
      have HW := Lib.hid hW
      clear hrd hW
      go_wp2
      obtain ⟨s0, s1, s2, -, -, -⟩ := HF.out.2.2.1.set (.slice p l.length cap') (.int .i64 0) (.int .i64 0)
      refine bodyPost_ret (v := .agg #[.slice p l.length cap', .int .i64 0, .int .i64 0]) (by simp [results, Tryz.results44, go_sem, s0, s1, s2]) rfl ⟨?_, ?_⟩
      · obtain ⟨p', cap2, he, hrd, -⟩ := owns_readsL rfl (owns_setCell (owns_setCell (owns_setCell HW.out (p := ⟨w.heap.size, 0, none⟩) hN (.slice p l.length cap')) (p := ⟨w.heap.size, 1, none⟩) hN (.int .i64 0)) (p := ⟨w.heap.size, 2, none⟩) hN (.int .i64 0))
        obtain ⟨rfl, -, rfl⟩ := Value.slice.inj he
        exact Or.inl ⟨hKe, _, _, rfl, hrd⟩
      · exact ((hBr.out.setCell (p := ⟨w.heap.size, 0, none⟩) (Nat.le_refl _) _).setCell (p := ⟨w.heap.size, 1, none⟩) (Nat.le_refl _) _).setCell (p := ⟨w.heap.size, 2, none⟩) (Nat.le_refl _) _
end Go.Proofs.YtdbebebhldldmaaGreatDoor
/- Contract: a text of edges with floats as weights, as the program puts it together (layer 18). -/
namespace Go.Proofs.YtdbebebhldldmaaGreatDoor.Gp
open Go.RowKit Go.ChangeShapes WordPure Str Wd EdPure NtPure GpPure FbitPure FintPure
/-- While the weights are put into the edges' copy. -/
def MixAt (g : Nat) (l : List Ed) (ws : List Nat) (k : Nat) (w : World) : Prop :=
  ∀ i (h : i < l.length) (h2 : i < ws.length), w.cell? ⟨g, i * 3, none⟩ = some (.int .i64 l[i].1) ∧ w.cell? ⟨g, i * 3 + 1, none⟩ = some (.int .i64 l[i].2.1) ∧ w.cell? ⟨g, i * 3 + 2, none⟩ = some (.int .i64 (if i < k then weightN ws[i] else l[i].2.2)) ∧ w.frozen? ⟨g, i * 3 + 2, none⟩ = false
theorem MixAt.put {g : Nat} {l : List Ed} {ws : List Nat} {k : Nat} {w : World} (h : MixAt g l ws k w) (hk : k < ws.length) : MixAt g l ws (k + 1) (w.setCell ⟨g, k * 3 + 2, none⟩ (.int .i64 (weightN ws[k]))) := by
  intro i h1 h2
  obtain ⟨c0, c1, c2, f2⟩ := h i h1 h2
  refine ⟨(World.cell?_setCell_other _ ⟨g, k * 3 + 2, none⟩ ⟨g, i * 3, none⟩ _ (by first | (simp; done) | (simp; omega))).trans c0, (World.cell?_setCell_other _ ⟨g, k * 3 + 2, none⟩ ⟨g, i * 3 + 1, none⟩ _ (by first | (simp; done) | (simp; omega))).trans c1, ?_, by simpa using f2⟩
  by_cases e : i = k
  · subst e
    rw [World.cell?_setCell_same _ _ _ c2, if_pos (by omega)]
  · refine (World.cell?_setCell_other _ ⟨g, k * 3 + 2, none⟩ ⟨g, i * 3 + 2, none⟩ _ (by first | (simp; done) | (simp; omega))).trans (c2.trans ?_)
    by_cases hik : i < k
    · rw [if_pos hik, if_pos (by omega)]
    · rw [if_neg hik, if_neg (by omega)]
theorem MixAt.reads {g : Nat} {l : List Ed} {ws : List Nat} {w : World} (h : MixAt g l ws ws.length w) (hl : l.length = ws.length) : ReadsE w.heap.size w (some ⟨g, 0, none⟩) (wOut l ws) := by
  by_cases h0 : l.length = 0
  · exact Or.inl (List.length_eq_zero_iff.1 (by rw [wOut_len hl]; exact h0))
  · refine Or.inr ⟨g, 0, rfl, World.block_lt_of_cell? w _ (h 0 (by omega) (by omega)).1, fun i hi => ?_⟩
    have hi1 : i < l.length := by rw [wOut_len hl] at hi; exact hi
    obtain ⟨c0, c1, c2, -⟩ := h i hi1 (by omega)
    rw [wOut_at hi1 (by omega) hi, Nat.zero_add]
    rw [if_pos (by omega)] at c2
    exact ⟨c0, c1, c2⟩
theorem mix_start {B g n c : Nat} {l : List Ed} {ws : List Nat} {w : World} (h : w.ownsRow B 51 3 (.slice (some ⟨g, 0, none⟩) n c) l.length (flatE l)) : MixAt g l ws 0 w ∧ B ≤ g := by
  have hc := h.cells (g := g) rfl
  have hlt := h.lt g rfl
  obtain ⟨h1, ⟨e, -⟩ | ⟨g', cap, cur, e, h3, h4, -⟩⟩ := h
  · cases e
  · cases e
    refine ⟨fun i hi h2 => ?_, h3⟩
    obtain ⟨e0, e1, e2⟩ := flatE_at hi
    have c0 := hc _ _ e0
    have c1 := hc _ _ e1
    have c2 := hc _ _ e2
    rw [addr_add, Nat.zero_add] at c0 c1 c2
    refine ⟨c0, c1, by rw [if_neg (by omega)]; exact c2, ?_⟩
    simp [World.frozen?, h4]
def WgSt (w : World) (g : Nat) (l : List Ed) (ws : List Nat) (k : Nat) (wr : World) : Prop := Below w.heap.size w wr ∧ MixAt g l ws k wr ∧ w.heap.size ≤ g
theorem WgSt.put {w wr : World} {g : Nat} {l : List Ed} {ws : List Nat} {k : Nat} (h : WgSt w g l ws k wr) (hk : k < ws.length) : WgSt w g l ws (k + 1) (wr.setCell ⟨g, k * 3 + 2, none⟩ (.int .i64 (weightN ws[k]))) :=
  ⟨h.1.setCell (p := ⟨g, k * 3 + 2, none⟩) h.2.2 _, h.2.1.put hk, h.2.2⟩
set_option maxRecDepth 100000 in
set_option maxHeartbeats 2000000 in
theorem weigh_any (a : Option Addr) (c : Nat) (l : List Ed) (b : Option Addr) (cb : Nat) (ws : List Nat) (hlw : l.length = ws.length) (hl : l.length ≤ 1000) (w : World) (hR : ReadsE w.heap.size w a l) (hB : ReadsL encW w.heap.size w b ws) :
    Calls Tryz.prog 43 #[.slice a l.length c, .slice b ws.length cb] w fun e w' => EdsOut (wOut l ws) w e w' := by
  have HLW := Lib.hid hlw
  have HB := Lib.hid hB
  have HC := Lib.hid (cloneW_any a c l (by omega) w hR)
  have HO := Lib.hid (wOut_len hlw)
  have hwl : ws.length ≤ 1000 := by omega
  clear hlw hR hB
  go_enter Tryz.func43, Tryz.ntmps43
  go_wp2_with fail
  refine HC.out.mono ?_
  rintro e w1 ⟨hb1, s, rfl, ho⟩
  obtain ⟨q, c1, rfl, hr1, -⟩ := owns_readsE rfl ho
  by_cases h0 : ws.length = 0
  · have hws : ws = [] := List.length_eq_zero_iff.1 h0
    have hls : l = [] := List.length_eq_zero_iff.1 (by have := HLW.out; omega)
    subst hws
    subst hls
    have HB1 := Lib.hid hb1
    clear hb1 ho hr1 HC
    go_wp2
    go_loopw [12] (fun i wr => i = .int .i64 0 ∧ Hid (Below w.heap.size w wr)) (fun _ _ => 0)
    case atStart => exact ⟨rfl, HB1⟩
    case round =>
      obtain ⟨rfl, HF⟩ := hrel
      go_wp2
      go_ret
      exact ⟨HF.out, q, c1, rfl, Or.inl rfl⟩
  · have hq : ∃ g, q = some ⟨g, 0, none⟩ := by
      obtain ⟨-, ⟨e, h⟩ | ⟨g, cap, cur, e, -⟩⟩ := ho
      · exact absurd h (by have := HLW.out; omega)
      · cases e; exact ⟨g, rfl⟩
    obtain ⟨g, rfl⟩ := hq
    obtain ⟨hm, hg⟩ := mix_start (ws := ws) ho
    have HF0 : Hid (WgSt w g l ws 0 w1) := Lib.hid ⟨hb1, hm, hg⟩
    clear hb1 ho hr1 hm hg HC h0
    go_wp2
    go_loopw [12] (fun i wr => ∃ k : Nat, i = .int .i64 k ∧ k ≤ ws.length ∧ Hid (WgSt w g l ws k wr)) (fun i _ => ws.length - (intOf i).toNat)
    case atStart => exact ⟨0, rfl, Nat.zero_le _, HF0⟩
    case round =>
      clear HF0
      obtain ⟨k, rfl, hk, HF⟩ := hrel
      by_cases hlt : k < ws.length
      · obtain ⟨b', off, hbe, hbN, hck⟩ := (HB.out.on HF.out.1).at hlt
        subst hbe
        have hkl : k < l.length := by have := HLW.out; omega
        obtain ⟨-, -, c2, f2⟩ := HF.out.2.1 k hkl hlt
        have HP := Lib.hid (HF.out.put hlt)
        have i1 : (k : Int) < (ws.length : Int) := by omega
        have i2 : (k : Int) < (l.length : Int) := by omega
        have hgl := World.block_lt_of_cell? wr _ c2
        unfold encW at hck
        generalize weightN ws[k] = x at *
        generalize (if k < k then x else l[k].2.2) = y at *
        go_wp2
        go_roundw
        case rel => exact ⟨k + 1, by go_num, hlt, HP⟩
        case measure => simp [intOf]; omega
      · have hke : k = ws.length := by omega
        have i1 : ¬ (k : Int) < (ws.length : Int) := by omega
        subst hke
        have HE : Hid (Below w.heap.size w wr ∧ ReadsE wr.heap.size wr (some ⟨g, 0, none⟩) (wOut l ws)) := Lib.hid ⟨HF.out.1, HF.out.2.1.reads HLW.out⟩
        clear HF
        go_wp2
        go_ret
        exact ⟨HE.out.1, some ⟨g, 0, none⟩, c1, by rw [HO.out]; rfl, HE.out.2⟩
theorem tup_tii {S S' : ByteArray} {a b c d : Int} (h0 : S = S') (h1 : a = b) (h2 : c = d) : Ending.returned (.tuple #[.string S, .int .i64 a, .int .i64 c]) = .returned (.tuple #[.string S', .int .i64 b, .int .i64 d]) := by rw [h0, h1, h2]
theorem chk_four {n : Int} {u v : Int} {b : Nat} (h : chkE n (u, v, weightN b) ≠ 0) : chkE n (u, v, weightN b) = 4 := by
  have hw := weight_rng b
  unfold chkE at h ⊢
  by_cases c : (0 ≤ (u, v, weightN b).1 ∧ (u, v, weightN b).1 < n) ∧ 0 ≤ (u, v, weightN b).2.1 ∧ (u, v, weightN b).2.1 < n
  · rw [if_pos c, if_pos hw] at h
    exact absurd rfl h
  · rw [if_neg c]
set_option maxRecDepth 100000 in
set_option maxHeartbeats 4000000 in
theorem progFloats_any (n : Int) (a : Option Addr) (c : Nat) (l : List Ed) (b : Option Addr) (cb : Nat) (ws : List Nat) (hn0 : -9223372036854775808 ≤ n) (hn1 : n ≤ 9223372036854775807) (hl : l.length ≤ 1000) (hws : ws.length ≤ 1000) (hI : InL l) (hW : WideL ws) (w : World) (hR : ReadsE w.heap.size w a l) (hB : ReadsL encF w.heap.size w b ws) (hT : Ten w) (hF : Tab64 w) :
    Calls Tryz.prog 16 #[.int .i64 n, .slice a l.length c, .slice b ws.length cb] w fun e w' => e = .returned (.tuple #[.string ⟨(fltT n l ws).toArray⟩, .int .i64 (fltE n l ws), .int .i64 (fltAt n l ws)]) ∧ Below w.heap.size w w' := by
  have HI := Lib.hid hI
  have HR := Lib.hid hR
  have HT := Lib.hid hT
  by_cases hlen : l.length = ws.length
  · have tl : ((ws.length : Int) != (l.length : Int)) = false := by rw [bne_eq_false_iff_eq]; omega
    have HLEN := Lib.hid hlen
    have HC := Lib.hid (weights_any b cb ws (First.firstBad weightE ws) w hW hB hws ⟨First.first_le _ _, First.first_good _ _, First.first_bad _ _⟩ hF)
    obtain ⟨K, hKe⟩ : ∃ K, First.firstBad weightE ws = K := ⟨_, rfl⟩
    have HKB := Lib.hid (First.err_bad weightE ws K)
    have HKG := Lib.hid (First.err_good weightE ws)
    rw [hKe] at HC HKB HKG
    have HKE := Lib.hid hKe
    clear hKe hlen hI hR hT hF hB hW
    go_enter Tryz.func16, Tryz.ntmps16
    go_wp2_with fail
    refine HC.out.mono ?_
    rintro e w1 ⟨⟨hKl, p, cap, rfl, hrw⟩ | ⟨hKl, rfl⟩, hb1⟩
    · have HE1 := Lib.hid (HKG.out hKl).1
      have HB1 := Lib.hid hb1
      have HQ1 := Lib.hid hrw
      have HR1 := Lib.hid (HR.out.over hb1 (Nat.le_refl _))
      have HT1 := Lib.hid (HT.out.on hb1)
      clear hb1 hrw HC HKB HKG HKE hKl HR HT
      by_cases h1 : n < 0
      · have HV : Hid (fltE n l ws = 1 ∧ fltAt n l ws = 0 ∧ fltT n l ws = []) := Lib.hid (by
          have h := flt_low HLEN.out HE1.out h1
          exact ⟨h.1, h.2, flt_bad (by rw [h.1]; decide)⟩)
        go_wp2
        go_ret3
        exact ⟨tup_tii (by rw [HV.out.2.2]) HV.out.1.symm HV.out.2.1.symm, HB1.out⟩
      by_cases h2 : 4096 < n
      · have HV : Hid (fltE n l ws = 3 ∧ fltAt n l ws = 0 ∧ fltT n l ws = []) := Lib.hid (by
          have h := flt_many HLEN.out HE1.out h1 (Or.inl h2)
          exact ⟨h.1, h.2, flt_bad (by rw [h.1]; decide)⟩)
        go_wp2
        go_ret3
        exact ⟨tup_tii (by rw [HV.out.2.2]) HV.out.1.symm HV.out.2.1.symm, HB1.out⟩
      have h3 : ¬ (l.length : Int) > 1048576 := by omega
      have h4 : ¬ (4096 < n ∨ 1048576 < l.length) := by omega
      have HIO := Lib.hid (wOut_in HI.out HLEN.out)
      have HWL := Lib.hid (wOut_len HLEN.out)
      have HWG := Lib.hid (weigh_any a c l p cap ws HLEN.out hl w1 HR1.out HQ1.out)
      have HKK : Hid (badV n l ws < l.length → chkL n (wOut l ws) 0 = (4, (badV n l ws : Int)) ∧ fltE n l ws = 4 ∧ fltAt n l ws = (badV n l ws : Int) ∧ fltT n l ws = []) := Lib.hid (fun hb => by
        have hbo : badV n l ws < (wOut l ws).length := by rw [HWL.out]; exact hb
        have hne := First.first_bad (chkE n) (wOut l ws) hbo
        have hhit := chk_hit n (wOut l ws) 0 (badV n l ws) hbo hne fun j hj hjk => First.first_good (chkE n) (wOut l ws) j hj hjk
        have hat := wOut_at hb (by have := HLEN.out; omega) hbo
        have hv := flt_v (n := n) HLEN.out HE1.out h1 h4 hb
        rw [hhit]
        have hn2 : chkE n (wOut l ws)[badV n l ws] ≠ 0 := hne
        rw [hat] at hn2 ⊢
        rw [chk_four hn2, Nat.zero_add]
        exact ⟨rfl, hv.1, hv.2, flt_bad (by rw [hv.1]; decide)⟩)
      have HGG : Hid (¬ badV n l ws < l.length → chkL n (wOut l ws) 0 = (0, 0) ∧ fltE n l ws = 0 ∧ fltAt n l ws = 0 ∧ fltT n l ws = textP n (wOut l ws)) := Lib.hid (fun hb => by
        refine ⟨chk_miss n (wOut l ws) 0 fun j hj => ?_, flt_good (n := n) HLEN.out HE1.out h1 h4 hb⟩
        have hle := First.first_le (chkE n) (wOut l ws)
        have : First.firstBad (chkE n) (wOut l ws) = (wOut l ws).length := by
          have h : ¬ First.firstBad (chkE n) (wOut l ws) < l.length := hb
          have := HWL.out
          omega
        exact First.first_good (chkE n) (wOut l ws) j hj (by omega))
      go_wp2_with fail
      refine HWG.out.mono ?_
      rintro e w2 ⟨hb2, q2, c2, rfl, hr2⟩
      have HB2 := Lib.hid (HB1.out.trans (hb2.mono HB1.out.size))
      have HR2 := Lib.hid hr2
      have HT2 := Lib.hid (HT1.out.on hb2)
      have HCK := Lib.hid (checks_any n q2 c2 (wOut l ws) (by rw [HWL.out]; omega) w2 hr2)
      have hol : (wOut l ws).length ≤ 1048576 := by rw [HWL.out]; omega
      clear hb2 hr2 HB1 HR1 HT1 HQ1 HWG
      by_cases hbad : badV n l ws < l.length
      · obtain ⟨k1, HV⟩ := HKK.out hbad
        have HV := Lib.hid HV
        rw [k1] at HCK
        clear k1 HKK HGG hbad h4
        generalize (badV n l ws : Int) = z at *
        go_wp2_with fail
        refine HCK.out.mono ?_
        rintro e w3 ⟨rfl, hb3⟩
        have HB3 := Lib.hid (HB2.out.trans (hb3.mono HB2.out.size))
        clear hb3
        go_wp2
        go_ret3
        exact ⟨tup_tii (by rw [HV.out.2.2]) HV.out.1.symm HV.out.2.1.symm, HB3.out⟩
      · obtain ⟨k1, HV⟩ := HGG.out hbad
        have HV := Lib.hid HV
        rw [k1] at HCK
        clear k1 HKK HGG hbad h4
        go_wp2_with fail
        refine HCK.out.mono ?_
        rintro e w3 ⟨rfl, hb3⟩
        have HB3 := Lib.hid (HB2.out.trans (hb3.mono HB2.out.size))
        have HR3 := Lib.hid (HR2.out.over hb3 (Nat.le_refl _))
        have HT3 := Lib.hid (HT2.out.on hb3)
        clear hb3 HCK HB2 HR2 HT2
        go_wp2_with fail
        refine (textOf_any n ⟨hn0, hn1⟩ q2 c2 (wOut l ws) hol HIO.out w3 HR3.out HT3.out).mono ?_
        rintro e w4 ⟨rfl, hb4⟩
        have HB4 := Lib.hid (HB3.out.trans (hb4.mono HB3.out.size))
        clear hb4
        go_wp2
        go_ret3
        exact ⟨tup_tii (by rw [HV.out.2.2]) HV.out.1.symm HV.out.2.1.symm, HB4.out⟩
    · have hz := (HKB.out hKl trivial).1
      have ha := (HKB.out hKl trivial).2
      have hne : weightE ws[K] ≠ 0 := by
        have := First.first_bad weightE ws
        rw [HKE.out] at this
        exact this hKl
      have HV : Hid (fltE n l ws = weightE ws[K] ∧ fltAt n l ws = (K : Int) ∧ fltT n l ws = []) := Lib.hid (by
        have h := flt_w (n := n) HLEN.out (by rw [hz]; exact hne)
        rw [hz, ha] at h
        exact ⟨h.1, h.2, flt_bad (by rw [h.1]; exact hne)⟩)
      have t2 : (weightE ws[K] != 0) = true := by simpa using hne
      have HB1 := Lib.hid hb1
      clear hz ha hne HKB HKG HKE HC hb1
      generalize weightE ws[K] = z at *
      go_wp2
      go_ret3
      exact ⟨tup_tii (by rw [HV.out.2.2]) HV.out.1.symm HV.out.2.1.symm, HB1.out⟩
  · have tl : ((ws.length : Int) != (l.length : Int)) = true := by rw [bne_iff_ne]; omega
    have HV : Hid (fltE n l ws = 1 ∧ fltAt n l ws = 0 ∧ fltT n l ws = []) := Lib.hid (by
      have h := flt_len (n := n) hlen
      exact ⟨h.1, h.2, flt_bad (by rw [h.1]; decide)⟩)
    clear hlen hI hR hT hF hB hW HI HR HT
    go_enter Tryz.func16, Tryz.ntmps16
    go_wp2
    go_ret3
    exact ⟨tup_tii (by rw [HV.out.2.2]) HV.out.1.symm HV.out.2.1.symm, Below.refl _ _⟩
end Go.Proofs.YtdbebebhldldmaaGreatDoor.Gp
