/- Contracts for lists of floats as weights: the program's, and the document's own. -/
import Derived.Test.YtmagdmjccljkiaaDoorFintRef
import Derived.Test.YtmagdmjccljkiaaDoorList
import Derived.Deep.QuietTactic
import Derived.BigQuiet
namespace Go.Proofs.YtmagdmjccljkiaaDoor
open Go.RowKit Go.ChangeShapes FbitPure FintPure
def encF (n : Nat) : Value := .float .f64 n
def encU (n : Nat) : Value := .int .u64 (n : Int)
def encW (n : Nat) : Value := .int .i64 (weightN n)
/-- K is the first place in l of a float that is no weight, or l's length. -/
structure FirstBad (l : List Nat) (K : Nat) : Prop where
  le : K ≤ l.length
  good : ∀ j (h : j < l.length), j < K → weightE l[j] = 0
  bad : ∀ h : K < l.length, weightE l[K] ≠ 0
theorem first_bad (l : List Nat) : ∃ K, FirstBad l K := by
  induction l with
  | nil => exact ⟨0, by simp, fun j h => by simp at h, fun h => by simp at h⟩
  | cons x t ih =>
    obtain ⟨K, h1, h2, h3⟩ := ih
    by_cases hx : weightE x = 0
    · refine ⟨K + 1, by simp; omega, fun j hj hk => ?_, fun h => by simpa using h3 (by simpa using h)⟩
      cases j with
      | zero => exact hx
      | succ j => exact h2 j (by simpa using hj) (by omega)
    · exact ⟨0, by simp, fun j _ hk => by omega, fun _ => hx⟩
def WideL (l : List Nat) : Prop := ∀ i (h : i < l.length), (l[i] : Int) ≤ 18446744073709551615
theorem fill_step {α : Type} (l : List α) (f : α → Value) (z : Value) (k : Nat) (hk : k < l.length) :
    ((l.take k).map f ++ List.replicate (l.length - k) z).set k (f l[k]) = (l.take (k + 1)).map f ++ List.replicate (l.length - (k + 1)) z := by
  have e1 : ((l.take k).map f).length = k := by simp; omega
  have e2 : l.length - k = (l.length - (k + 1)) + 1 := by omega
  rw [List.set_append_right _ _ (by omega), e1, Nat.sub_self, e2, List.replicate_succ, List.set_cons_zero, take_snoc l k hk, List.map_append, List.append_assoc]
  rfl
/-- At the head of a round of Weights. -/
def FillRel (w0 : World) (l : List Nat) (K k : Nat) (w : World) : Prop :=
  k ≤ K ∧ Below w0.heap.size w0 w ∧ RowIs w0.heap.size w ((l.take k).map encW ++ List.replicate (l.length - k) (.int .i64 0))
def WOut (l : List Nat) (K : Nat) (e : Ending) (w' : World) : Prop :=
  (K = l.length ∧ ∃ p cap, e = .returned (.tuple #[.slice p l.length cap, .int .i64 0, .int .i64 0]) ∧ ReadsL encW w'.heap.size w' p l) ∨
  (∃ h : K < l.length, e = .returned (.tuple #[.slice none 0 0, .int .i64 (weightE l[K]), .int .i64 (K : Int)]))
theorem FillRel.at {w0 w : World} {l : List Nat} {K k : Nat} (h : FillRel w0 l K k w) (hk : k < l.length) : w.cell? ⟨w0.heap.size, k, none⟩ = some (.int .i64 0) ∧ w.frozen? ⟨w0.heap.size, k, none⟩ = false := by
  have hlen : k < ((l.take k).map encW ++ List.replicate (l.length - k) (Value.int .i64 0)).length := by simp; omega
  obtain ⟨h1, h2⟩ := h.2.2 k hlen
  refine ⟨?_, h2⟩
  rw [h1, List.getElem_append_right (by simp; omega)]
  simp
theorem FillRel.step {w0 w : World} {l : List Nat} {K k : Nat} (h : FillRel w0 l K k w) (hk : k < l.length) (hK : k < K) : FillRel w0 l K (k + 1) (w.setCell ⟨w0.heap.size, k, none⟩ (encW l[k])) := by
  refine ⟨hK, h.2.1.setCell (Nat.le_refl _) _, ?_⟩
  have := h.2.2.set (k := k) (by simp; omega) (encW l[k])
  rwa [fill_step l encW _ k hk] at this
theorem ret_sii {k l : IntKind} {s : Value} {c d m n : Int} (h2 : c = d) (h3 : m = n) : Ending.returned (.tuple #[s, .int k c, .int l m]) = .returned (.tuple #[s, .int k d, .int l n]) := by rw [h2, h3]
set_option maxHeartbeats 1000000 in
theorem weights_any (a : Option Addr) (cap : Nat) (l : List Nat) (K : Nat) (w : World) (hr : WideL l) (hl : ReadsL encF w.heap.size w a l) (hlen : l.length ≤ 1000) (hK : FirstBad l K) (hT : TabAt 1 Lib.deBruijn64tab w) :
    Calls Tryd.prog 16 #[.slice a l.length cap] w fun e w' => WOut l K e w' ∧ Below w.heap.size w w' := by
  have HT := Lib.hid hT
  have HL := Lib.hid hl
  have HR := Lib.hid hr
  have HK := Lib.hid hK
  have hKl := hK.le
  have hmk := makeRow (P := Tryd.prog) (T := 42) (E := 2) (z := .int .i64 0) (c := 8) Tryd.underlying42 (by kernel_rfl) (by decide) rfl l.length (by omega) w
  have hB0 := (Below.refl w.heap.size w).alloc (Nat.le_refl _) (.cells (madeCells #[.int .i64 0] l.length) 2)
  have HS : Hid (FillRel w l K 0 (w.alloc (.cells (madeCells #[.int .i64 0] l.length) 2))) := Lib.hid ⟨Nat.zero_le _, hB0, by simpa using rowIs_made w (.int .i64 0) l.length 2⟩
  clear hT hl hr hK hB0
  go_enter Tryd.func16, Tryd.ntmps16
  go_wp2
  go_loopw [15] (fun i wr => ∃ k : Nat, i = .int .i64 k ∧ Hid (FillRel w l K k wr)) (fun i _ => l.length - (intOf i).toNat)
  case atStart => exact ⟨0, rfl, HS⟩
  case round =>
    obtain ⟨k, rfl, HF⟩ := hrel
    have hkK := HF.out.1
    by_cases hlt : k < l.length
    · obtain ⟨b, off, rfl, hbN, hck0⟩ := HL.out.at hlt
      have hrk := HR.out k hlt
      have hck := (HF.out.2.1.cell (p := ⟨b, off + k, none⟩) hbN).trans hck0
      have HTr := Lib.hid (tab_on HT.out (by decide) HF.out.2.1)
      obtain ⟨hcd, hfd⟩ := HF.out.at hlt
      have HX : Hid (k = K → weightE l[k] ≠ 0) := Lib.hid (fun e => by subst e; exact HK.out.bad hlt)
      have HG : Hid (k < K → weightE l[k] = 0) := Lib.hid (fun e => HK.out.good k hlt e)
      have HST : Hid (k < K → FillRel w l K (k + 1) (wr.setCell ⟨w.heap.size, k, none⟩ (encW l[k]))) := Lib.hid fun e => HF.out.step hlt e
      have HO : Hid (∀ w', k = K → WOut l K (.returned (.tuple #[.slice none 0 0, .int .i64 (weightE l[k]), .int .i64 (k : Int)])) w') := Lib.hid fun w' e => by subst e; exact Or.inr ⟨hlt, rfl⟩
      have hbel := Lib.hid HF.out.2.1
      unfold encF at hck
      clear hck0
      generalize l[k] = x at *
      by_cases hkk : k < K
      · have hw0 := HG.out hkk
        have HN := Lib.hid (HST.out hkk)
        go_wp2_with (first | (go_at_call 8; refine (weight_any _ hrk _ HTr.out).mono ?_; rintro e w' ⟨rfl, rfl⟩))
        go_roundw
        case rel => exact ⟨k + 1, by go_num, HN⟩
        case measure => simp [intOf]; omega
      · have hke : k = K := by omega
        have t : (weightE x != 0) = true := by simp [HX.out hke]
        have HO' := Lib.hid (HO.out wr hke)
        clear hke
        go_wp2_with (first | (go_at_call 8; refine (weight_any _ hrk _ HTr.out).mono ?_; rintro e w' ⟨rfl, rfl⟩))
        go_ret3
        exact ⟨HO'.out, hbel.out⟩
    · have hke : k = l.length := by omega
      have hKe : K = l.length := by omega
      subst hke
      go_wp2
      go_ret3
      refine ⟨Or.inl ⟨hKe, _, _, rfl, ?_⟩, HF.out.2.1⟩
      have h := HF.out.2.2
      rw [List.take_length, Nat.sub_self, List.replicate_zero, List.append_nil] at h
      exact h.reads
def ROut (l : List Nat) (K : Nat) (e : Ending) (w' : World) : Prop :=
  (K = l.length ∧ ∃ p cap, e = .returned (.agg #[.slice p l.length cap, .int .i64 0, .int .i64 0]) ∧ ReadsL encW w'.heap.size w' p l) ∨
  (∃ h : K < l.length, e = .returned (.agg #[.slice none 0 0, .int .i64 (weightE l[K]), .int .i64 (K : Int)]))
/-- At the head of a round of the document's Weights. -/
def RefRel (N : Nat) (w0 : World) (l : List Nat) (K k : Nat) (v : Value) (w : World) : Prop :=
  k ≤ K ∧ GrowRel encW 2 w0 (l.take k) v w ∧ ThreeAt N w (.slice none 0 0) (.int .i64 0) (.int .i64 0) ∧ N < w0.heap.size
theorem info_int64 : (Tryd.prog.info? 2).map (fun i => (i.zero, i.size, i.bytes)) = some (some (.int .i64 0), 1, 8) := by kernel_rfl
theorem RefRel.on {N : Nat} {w0 w w' : World} {l : List Nat} {K k : Nat} {v : Value} (h : RefRel N w0 l K k v w) (hb : Below w.heap.size w w') : RefRel N w0 l K k v w' :=
  ⟨h.1, h.2.1.on hb, h.2.2.1.on hb h.2.2.1.lt, h.2.2.2⟩
theorem RefRel.step {N : Nat} {w0 w w' : World} {l : List Nat} {K k : Nat} {v v' : Value} {o : Obj} (h : RefRel N w0 l K k v w) (hk : k < l.length) (hK : k < K) (h1 : w'.ownsRow w0.heap.size 2 1 v' (k + 1) ((l.take k).map encW ++ [encW l[k]])) (hg : (w.alloc o).grownBy w' v.ownBlock) :
    RefRel N w0 l K (k + 1) v' w' := by
  have hl : (l.take k).length = k := by simp; omega
  have h2 := h.2.1.step (o := o) l[k] (by rw [hl]; exact h1) hg
  rw [← take_snoc l k hk] at h2
  have hgr : Below (N + 1) w w' := by
    have b1 : Below (N + 1) w (w.alloc o) := (Below.refl _ _).alloc (by have := h.2.2.1.lt; omega) o
    exact b1.grown hg (by have := h.2.2.1.lt; simp; omega) fun j hj => by have := (h.2.1.2.lt j hj).1; have := h.2.2.2; omega
  exact ⟨hK, h2, h.2.2.1.on hgr (by omega), h.2.2.2⟩
theorem agg_sii {k l : IntKind} {s : Value} {c d m n : Int} (h2 : c = d) (h3 : m = n) : Ending.returned (.agg #[s, .int k c, .int l m]) = .returned (.agg #[s, .int k d, .int l n]) := by rw [h2, h3]
set_option maxHeartbeats 1000000 in
theorem refWeights_any (a : Option Addr) (cap : Nat) (l : List Nat) (K : Nat) (w : World) (hr : WideL l) (hl : ReadsL encU w.heap.size w a l) (hlen : l.length ≤ 1000) (hK : FirstBad l K) :
    Calls Tryd.prog 17 #[.slice a l.length cap] w fun e w' => ROut l K e w' ∧ Below w.heap.size w w' := by
  have HR := Lib.hid hr
  have HK := Lib.hid hK
  have hKl := hK.le
  obtain ⟨i0, hi, hz0, hz1, hz2⟩ := info_parts info_int64
  have hW0 : Below w.heap.size w (w.alloc (.cells #[.slice none 0 0, .int .i64 0, .int .i64 0] 46)) := (Below.refl _ _).alloc (Nat.le_refl _) _
  have HS : Hid (RefRel w.heap.size (w.alloc (.cells #[.slice none 0 0, .int .i64 0, .int .i64 0] 46)) l K 0 (.slice none 0 0) (w.alloc (.cells #[.slice none 0 0, .int .i64 0, .int .i64 0] 46))) :=
    Lib.hid ⟨Nat.zero_le _, GrowRel.start _ _ _, ThreeAt.new _ _ _ _ _, by simp⟩
  have HL := Lib.hid (hl.on hW0)
  have HB0 := Lib.hid hW0
  clear hl hr hK hW0
  go_enter Tryd.func17, Tryd.ntmps17
  go_wp2
  generalize (w.alloc (.cells #[.slice none 0 0, .int .i64 0, .int .i64 0] 46)) = W0 at *
  go_loopw [3, 4] (fun v i wr => ∃ k : Nat, i = .int .i64 k ∧ Hid (RefRel w.heap.size W0 l K k v wr)) (fun _ i _ => l.length - (intOf i).toNat)
  case atStart => exact ⟨0, rfl, HS⟩
  case round =>
    obtain ⟨k, rfl, HF⟩ := hrel
    have hkK := HF.out.1
    have hBr := Lib.hid (HB0.out.trans (HF.out.2.1.1.mono HB0.out.size))
    by_cases hlt : k < l.length
    · obtain ⟨b, off, rfl, hbN, hck0⟩ := HL.out.at hlt
      have hrk := HR.out k hlt
      have hck := (hBr.out.cell (p := ⟨b, off + k, none⟩) hbN)
      have hcw := (HB0.out.cell (p := ⟨b, off + k, none⟩) hbN)
      rw [← hcw, hck0] at hck
      unfold encU at hck
      have hl : (l.take k).length = k := by simp; omega
      have HX : Hid (k = K → weightE l[k] ≠ 0) := Lib.hid (fun e => by subst e; exact HK.out.bad hlt)
      have HG : Hid (k < K → weightE l[k] = 0 ∧ weightN l[k] = weightN l[k]) := Lib.hid (fun e => ⟨HK.out.good k hlt e, rfl⟩)
      have HO : Hid (∀ w', k = K → ROut l K (.returned (.agg #[.slice none 0 0, .int .i64 (weightE l[k]), .int .i64 (k : Int)])) w') := Lib.hid fun w' e => by subst e; exact Or.inr ⟨hlt, rfl⟩
      have HST : Hid (∀ w2 v' w' o, RefRel w.heap.size W0 l K k u3 w2 → k < K → w'.ownsRow W0.heap.size 2 1 v' (k + 1) ((l.take k).map encW ++ [.int .i64 (weightN l[k])]) → (w2.alloc o).grownBy w' u3.ownBlock → RefRel w.heap.size W0 l K (k + 1) v' w') :=
        Lib.hid fun w2 v' w' o h hk h1 h2 => h.step hlt hk h1 h2
      clear hck0 hcw
      generalize l[k] = x at *
      go_wp2_with fail
      refine (refWeight_any x hrk _).mono ?_
      rintro e w1 ⟨rfl, hb1⟩
      have HB1 := Lib.hid hb1
      have hs1 := hb1.size
      have hf1 := HF.out.on hb1
      have hf2 := hf1.on ((Below.refl _ _).alloc (Nat.le_refl _) (.cells #[.int .i64 (weightN x), .int .i64 (weightE x)] 31))
      have HF1 := Lib.hid hf1
      have HF2 := Lib.hid hf2
      have hsz := hf1.2.1.1.size
      have hNz := hf1.2.2.2
      obtain ⟨c0, c1, c2, f0, f1, f2⟩ := hf1.2.2.1
      clear hb1 hf1 hf2
      by_cases hkk : k < K
      · have t : (weightE x != 0) = false := by simp [(HG.out hkk).1]
        clear c0 c1 c2 f0 f1 f2
        go_wp2_with (first
          | (at_builtin; refine wpList_append_own _ rfl _ _ 42 rfl W0.heap.size 2 i0 (.int .i64 0) 1 8 Tryd.underlying42 hi hz0 hz1 hz2 rfl (by decide) u3 (l.take k).length ((l.take k).map encW) rfl (HF2.out.2.1.2.alloc _) ⟨w1.heap.size + 1, 0, none⟩ 1 1 [.int .i64 (weightN x)] rfl rfl (one_newsAt (by simp)) (by intro u hu; simp at hu; subst hu; rfl) (by unfold maxLen; omega) (by omega) (by simp; omega) ?_))
        intro v' w2 hown hgrow _
        rw [← List.map_take] at hown
        have HN := Lib.hid (HST.out _ v' w2 _ HF2.out hkk hown hgrow)
        clear hown hgrow
        go_wp2
        go_roundw
        case rel => exact ⟨k + 1, by go_num, HN⟩
        case measure => simp [intOf]; omega
      · have hke := Lib.hid (show k = K by omega)
        have t : (weightE x != 0) = true := by simp [HX.out hke.out]
        have HO' := HO.out
        have hz := HF1.out.2.2.1.lt
        go_wp2
        have hq := ((HF1.out.2.2.1.set (.slice none 0 0) (.int .i64 (weightE x)) (.int .i64 (k : Int))))
        obtain ⟨s0, s1, s2, -, -, -⟩ := hq.on ((Below.refl _ _).alloc (Nat.le_refl _) (.cells #[.int .i64 (weightN x), .int .i64 (weightE x)] 31)) hq.lt
        refine bodyPost_ret (v := .agg #[.slice none 0 0, .int .i64 (weightE x), .int .i64 (k : Int)]) (by simp [results, Tryd.results17, go_sem, s0, s1, s2]) rfl ⟨HO' _ hke.out, ?_⟩
        exact ((((hBr.out.trans (HB1.out.mono hBr.out.size)).setCell (p := ⟨w.heap.size, 0, none⟩) (Nat.le_refl _) _).setCell (p := ⟨w.heap.size, 1, none⟩) (Nat.le_refl _) _).setCell (p := ⟨w.heap.size, 2, none⟩) (Nat.le_refl _) _).alloc (by simp; omega) _
    · have hke : k = l.length := by omega
      have hKe : K = l.length := by omega
      subst hke
      obtain ⟨c0, c1, c2, f0, f1, f2⟩ := HF.out.2.2.1
      obtain ⟨p, cap', rfl, hrd, -⟩ := HF.out.2.1.reads
      have hW := HF.out.2.1.2
      have hN := HF.out.2.2.2
      rw [List.take_length] at hrd hW ⊢
      have HW := Lib.hid hW
      clear hrd hW
      go_wp2
      obtain ⟨s0, s1, s2, -, -, -⟩ := HF.out.2.2.1.set (.slice p l.length cap') (.int .i64 0) (.int .i64 0)
      refine bodyPost_ret (v := .agg #[.slice p l.length cap', .int .i64 0, .int .i64 0]) (by simp [results, Tryd.results17, go_sem, s0, s1, s2]) rfl ⟨?_, ?_⟩
      · obtain ⟨p', cap2, he, hrd, -⟩ := owns_readsL rfl (owns_setCell (owns_setCell (owns_setCell HW.out (p := ⟨w.heap.size, 0, none⟩) hN (.slice p l.length cap')) (p := ⟨w.heap.size, 1, none⟩) hN (.int .i64 0)) (p := ⟨w.heap.size, 2, none⟩) hN (.int .i64 0))
        obtain ⟨rfl, -, rfl⟩ := Value.slice.inj he
        exact Or.inl ⟨hKe, _, _, rfl, hrd⟩
      · exact ((hBr.out.setCell (p := ⟨w.heap.size, 0, none⟩) (Nat.le_refl _) _).setCell (p := ⟨w.heap.size, 1, none⟩) (Nat.le_refl _) _).setCell (p := ⟨w.heap.size, 2, none⟩) (Nat.le_refl _) _
set_option maxHeartbeats 400000 in
/-- Of equal lists Same tells that they are. -/
theorem same_any (p q : Option Addr) (c d : Nat) (l : List Nat) (w : World) (h1 : ReadsL encW w.heap.size w p l) (h2 : ReadsL encW w.heap.size w q l) (hlen : l.length ≤ 1000) :
    Calls Tryd.prog 18 #[.slice p l.length c, .slice q l.length d] w fun e w' => e = .returned (.bool true) ∧ Below w.heap.size w w' := by
  have H1 := Lib.hid h1
  have H2 := Lib.hid h2
  have HS := Lib.hid (Below.refl w.heap.size w)
  clear h1 h2
  go_enter Tryd.func18, Tryd.ntmps18
  go_wp2
  go_loopw [5] (fun i wr => ∃ k : Nat, i = .int .i64 k ∧ k ≤ l.length ∧ Hid (Below w.heap.size w wr)) (fun i _ => l.length - (intOf i).toNat)
  case atStart => exact ⟨0, rfl, Nat.zero_le _, HS⟩
  case round =>
    obtain ⟨k, rfl, hk, HB⟩ := hrel
    by_cases hlt : k < l.length
    · obtain ⟨b0, o0, rfl, -, g0⟩ := (H1.out.on HB.out).at hlt
      obtain ⟨b1, o1, rfl, -, g1⟩ := (H2.out.on HB.out).at hlt
      unfold encW at g0 g1
      generalize l[k] = x at *
      go_wp2
      go_quiet (fail)
      go_wp2
      go_roundw
      case rel => exact ⟨k + 1, by go_num, hlt, below_drewN HB.out _⟩
      case measure => (simp [intOf] <;> omega)
    · have hke : k = l.length := by omega
      subst hke
      go_wp2
      go_ret
      exact ⟨rfl, HB.out⟩
end Go.Proofs.YtmagdmjccljkiaaDoor
