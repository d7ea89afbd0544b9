/- Contracts of the document's own answers of layer 7: the lines, and the words, of a text. -/
import Derived.Test.YthgalcfnaaboeaaWordRef1
import Derived.Test.YthgalcfnaaboeaaWordCut2
import Derived.Test.YthgalcfnaaboeaaCells
namespace Go.Proofs.Ythgalcfnaaboeaa.Wd
open Go.RowKit Go.ChangeShapes WordPure Str
/-- Pieces, or that there are none, as a struct. -/
def AggOut (l : List (List UInt8)) (b : Bool) (e : Ending) (w' : World) : Prop :=
  ∃ p cap, e = .returned (.agg #[.slice p l.length cap, .bool b]) ∧ ReadsL encS w'.heap.size w' p l
/-- At the head of a round of the document's Lines, Words: what is gathered, and the cell of the result. -/
def PickRel (N : Nat) (w0 : World) (d : List (List UInt8)) (v : Value) (w : World) : Prop :=
  GrowRel encS 9 w0 d v w ∧ TwoAt N w (.slice none 0 0) (.bool false) ∧ N < w0.heap.size
theorem PickRel.start (w : World) : PickRel w.heap.size (w.alloc (.cells #[.slice none 0 0, .bool false] 28)) [] (.slice none 0 0) (w.alloc (.cells #[.slice none 0 0, .bool false] 28)) :=
  ⟨GrowRel.start _ _ _, TwoAt.new _ _ _ _, by simp⟩
theorem PickRel.on {N : Nat} {w0 w w' : World} {d : List (List UInt8)} {v : Value} (h : PickRel N w0 d v w) (hb : Below w.heap.size w w') : PickRel N w0 d v w' :=
  ⟨h.1.on hb, h.2.1.on hb h.2.1.lt, h.2.2⟩
theorem PickRel.step {N : Nat} {w0 w w' : World} {d : List (List UInt8)} {v v' : Value} {o : Obj} (h : PickRel N w0 d v w) (x : ByteArray)
    (h1 : w'.ownsRow w0.heap.size 9 1 v' (d.length + 1) (d.map encS ++ [.string x])) (hg : (w.alloc o).grownBy w' v.ownBlock) : PickRel N w0 (d ++ [x.data.toList]) v' w' := by
  obtain ⟨g1, g2, g3⟩ := h
  refine ⟨g1.step _ (by show w'.ownsRow _ _ 1 v' _ (d.map encS ++ [encS x.data.toList]); unfold encS; rw [mk_self]; exact h1) hg, ?_, g3⟩
  have b1 : Below (N + 1) w (w.alloc o) := (Below.refl _ _).alloc (by have := g2.lt; omega) o
  have hgr : Below (N + 1) w w' := b1.grown hg (by have := g2.lt; simp; omega) fun j hj => by have := (g1.2.lt j hj).1; omega
  exact g2.on hgr (by omega)
/-- What stands in the result's cell is the answer. -/
theorem pick_end {N : Nat} {w0 w : World} {d : List (List UInt8)} {p : Option Addr} {cap : Nat} (h : PickRel N w0 d (.slice p d.length cap) w) (u v : Value) :
    ReadsL encS ((w.setCell ⟨N, 0, none⟩ u).setCell ⟨N, 1, none⟩ v).heap.size ((w.setCell ⟨N, 0, none⟩ u).setCell ⟨N, 1, none⟩ v) p d := by
  have h2 := owns_setCell (owns_setCell h.1.2 (p := ⟨N, 0, none⟩) h.2.2 u) (p := ⟨N, 1, none⟩) h.2.2 v
  obtain ⟨p', cap2, he, hrd, -⟩ := owns_readsL rfl h2
  obtain ⟨rfl, -, -⟩ := Value.slice.inj he
  exact hrd
theorem below_two {M : Nat} {w0 w : World} (h : Below M w0 w) (N : Nat) (hN : M ≤ N) (u v : Value) : Below M w0 ((w.setCell ⟨N, 0, none⟩ u).setCell ⟨N, 1, none⟩ v) :=
  (h.setCell (p := ⟨N, 0, none⟩) hN u).setCell (p := ⟨N, 1, none⟩) hN v
set_option maxHeartbeats 4000000 in
theorem refLines_any (s : ByteArray) (hs : s.size ≤ 100000000) (w : World) :
    Calls Try.prog 10 #[.string s] w fun e w' => AggOut (linesL s.data.toList) (linesB s.data.toList) e w' ∧ Below w.heap.size w w' := by
  obtain ⟨i0, hi, hz0, hz1, hz2⟩ := info_of infoStr
  have HS := Lib.hid (PickRel.start w)
  have HA : Hid (At 10 s.data.toList [] 0 0) := Lib.hid (At.start _ _)
  have HB0 := Lib.hid ((Below.refl w.heap.size w).alloc (Nat.le_refl _) (.cells #[.slice none 0 0, .bool false] 28))
  have HSZ := Lib.hid (Lib.size_eq s)
  go_enter Try.func10, Try.ntmps10
  go_wp2
  generalize (w.alloc (.cells #[.slice none 0 0, .bool false] 28)) = W0 at *
  go_loopw [3, 4, 5] (fun v g i wr => ∃ (d : List (List UInt8)) (f k : Nat), g = .int .i64 f ∧ i = .int .i64 k ∧ f ≤ k ∧ k ≤ s.size ∧ Hid (At 10 s.data.toList d f k) ∧ Hid (PickRel w.heap.size W0 d v wr)) (fun _ _ i _ => s.size - (intOf i).toNat)
  case atStart => exact ⟨[], 0, 0, rfl, rfl, Nat.le_refl _, Nat.zero_le _, HA, HS⟩
  case round =>
    obtain ⟨d, f, k, rfl, rfl, hfk, hks, HK, HF⟩ := hrel
    have HBr := Lib.hid (HB0.out.trans (HF.out.1.1.mono HB0.out.size))
    by_cases hk : k < s.size
    · have hkl : k < s.data.toList.length := by rw [← HSZ.out]; exact hk
      by_cases hc : s[k] = 10
      · have t : (((s[k].toNat : Nat) : Int) == 10) = true := byte_yes (by decide) hc
        have HN := Lib.hid (HK.out.hit hkl hc).1
        have hdl : d.length ≤ 100000000 := by have := HK.out.len; rw [← HSZ.out] at this; omega
        have hsz := HF.out.1.1.size
        clear hc
        go_wp2_with (first
          | (at_builtin; refine wpList_append_own _ rfl _ _ 22 rfl W0.heap.size 9 i0 (.string ⟨#[]⟩) 1 16 Try.underlying22 hi hz0 hz1 hz2 rfl (by decide) u3 d.length (d.map encS) rfl (HF.out.1.2.alloc _) ⟨wr.heap.size, 0, none⟩ 1 1 [.string (s.extract f k)] rfl rfl one_news (by intro u hu; simp at hu; subst hu; rfl) (by unfold maxLen; omega) (by omega) (by simp; omega) ?_))
        intro v' w3 hown hgrow _
        have HP := Lib.hid (HF.out.step _ hown hgrow)
        rw [extract_mid] at HP
        clear hown hgrow
        go_wp2
        go_roundw
        case rel => exact ⟨_, k + 1, k + 1, by go_num, by go_num, Nat.le_refl _, hk, HN, HP⟩
        case measure => simp [intOf]; omega
      · have t : (((s[k].toNat : Nat) : Int) == 10) = false := byte_no (by decide) hc
        have HN := Lib.hid (HK.out.skip hkl hc)
        clear hc
        go_wp2
        go_roundw
        case rel => exact ⟨d, f, k + 1, rfl, by go_num, by omega, hk, HN, HF⟩
        case measure => simp [intOf]; omega
    · have HE := Lib.hid (lines_of (HK.out.done (by rw [← HSZ.out]; exact hk)))
      obtain ⟨p, cap', rfl, -, -⟩ := HF.out.1.reads
      obtain ⟨c0, c1, f0, f1⟩ := HF.out.2.1
      have hz := HF.out.2.1.lt
      by_cases hf : f < s.size
      · have HQ : Hid (linesL s.data.toList = [] ∧ linesB s.data.toList = false) := Lib.hid (by
          have hne : (s.data.toList.drop f).isEmpty = false := by
            cases hh : s.data.toList.drop f with
            | nil => have h1 := congrArg List.length hh; rw [List.length_drop, ← HSZ.out, List.length_nil] at h1; omega
            | cons a b => rfl
          have h := HE.out
          rw [hne] at h
          exact ⟨h.2, h.1⟩)
        go_wp2
        obtain ⟨s0, s1, -, -⟩ := HF.out.2.1.set (.slice none 0 0) (.bool false)
        refine bodyPost_ret (v := .agg #[.slice none 0 0, .bool false]) (by simp [results, Try.results10, go_sem, s0, s1]) rfl ⟨⟨none, 0, ?_, ?_⟩, below_two HBr.out _ (Nat.le_refl _) _ _⟩
        · rw [HQ.out.1, HQ.out.2]; rfl
        · rw [HQ.out.1]; exact ReadsL.nil _ _ _ _
      · have HQ : Hid (linesL s.data.toList = d ∧ linesB s.data.toList = true) := Lib.hid (by
          have hne : s.data.toList.drop f = [] := List.drop_eq_nil_of_le (by rw [← HSZ.out]; omega)
          have h := HE.out
          rw [hne] at h
          exact ⟨h.2, h.1⟩)
        go_wp2
        obtain ⟨s0, s1, -, -⟩ := HF.out.2.1.set (.slice p d.length cap') (.bool true)
        refine bodyPost_ret (v := .agg #[.slice p d.length cap', .bool true]) (by simp [results, Try.results10, go_sem, s0, s1]) rfl ⟨⟨p, cap', ?_, ?_⟩, below_two HBr.out _ (Nat.le_refl _) _ _⟩
        · rw [HQ.out.1, HQ.out.2]
        · rw [HQ.out.1]; exact pick_end HF.out _ _
end Go.Proofs.Ythgalcfnaaboeaa.Wd
