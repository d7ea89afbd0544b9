/- A contract for the document's own answer on a text's number up to a greatest one. -/
import Derived.Test.YtdianpdjcgcifaaDoorDecRefParse
namespace Go.Proofs.YtdianpdjcgcifaaDoor
open Go.RowKit Go.ChangeShapes DecPure
set_option maxHeartbeats 2000000 in
theorem refNat_any (s : ByteArray) (hs : s.size ≤ 1000000) (most : Int) (w : World) :
    Calls Tryd.prog 10 #[.string s, .int .i64 most] w fun e w' => e = .returned (.agg #[.int .i64 (natN s.data.toList most), .int .i64 (natE s.data.toList most)]) ∧ Below w.heap.size w w' := by
  have HC := Lib.hid (refParse_any s hs (w.alloc (.cells #[.int .i64 0, .int .i64 0] 28)))
  have HB : Hid (parseE s.data.toList ≠ 0 → natE s.data.toList most = parseE s.data.toList ∧ natN s.data.toList most = 0) := Lib.hid fun h => nat_bad h most
  have HF : Hid (parseE s.data.toList = 0 → parseN s.data.toList < 0 ∨ most < parseN s.data.toList → natE s.data.toList most = 10 ∧ natN s.data.toList most = 0) := Lib.hid fun h h2 => nat_far h h2
  have HG : Hid (parseE s.data.toList = 0 → ¬(parseN s.data.toList < 0 ∨ most < parseN s.data.toList) → natE s.data.toList most = 0 ∧ natN s.data.toList most = parseN s.data.toList) := Lib.hid fun h h2 => nat_good h h2
  have HZ : Hid (parseE s.data.toList ≠ 0 → parseN s.data.toList = 0) := Lib.hid fun h => by
    rcases parse_cases s.data.toList with ⟨-, -, e⟩ | ⟨-, -, -, e⟩ | ⟨-, -, e, -⟩
    · exact e
    · exact e
    · exact absurd e h
  have hW0 : Below w.heap.size w (w.alloc (.cells #[.int .i64 0, .int .i64 0] 28)) := (Below.refl _ _).alloc (Nat.le_refl _) _
  have HT0 := Lib.hid (TwoAt.new w (.int .i64 0) (.int .i64 0) 28)
  have HK : Hid (w.heap.size < (w.alloc (.cells #[.int .i64 0, .int .i64 0] 28)).heap.size) := Lib.hid (by simp)
  have HB0 := Lib.hid hW0
  clear hW0
  generalize natE s.data.toList most = ne at *
  generalize natN s.data.toList most = nn at *
  generalize parseE s.data.toList = pe at *
  generalize parseN s.data.toList = pn at *
  generalize W0e : w.alloc (.cells #[.int .i64 0, .int .i64 0] 28) = W0 at *
  go_enter Tryd.func10, Tryd.ntmps10
  go_wp2_with fail
  refine HC.out.mono ?_
  rintro e w1 ⟨rfl, hb1⟩
  have HB1 := Lib.hid (HB0.out.trans (hb1.mono HB0.out.size))
  have HT1 := Lib.hid (HT0.out.on hb1 HK.out)
  obtain ⟨c0, c1, f0, f1⟩ := HT1.out
  have hlt := HT1.out.lt
  have hle := HB1.out.size
  clear HC hb1
  by_cases h0 : pe = 0
  · subst h0
    by_cases h1 : pn < 0 ∨ most < pn
    · have HR := Lib.hid (HF.out rfl h1)
      rcases h1 with h1 | h1
      · go_wp2
        have hq := HT1.out.set (.int .i64 0) (.int .i64 10)
        obtain ⟨s0, s1, -, -⟩ := hq.on ((Below.refl _ _).alloc (Nat.le_refl _) (.cells #[.int .i64 pn, .int .i64 0] 28)) hq.lt
        refine bodyPost_ret (v := .agg #[.int .i64 0, .int .i64 10]) (by simp [results, Tryd.results10, go_sem, s0, s1]) rfl ⟨agg_ii HR.out.2.symm HR.out.1.symm, ?_⟩
        exact ((HB1.out.setCell (p := ⟨w.heap.size, 0, none⟩) (Nat.le_refl _) _).setCell (p := ⟨w.heap.size, 1, none⟩) (Nat.le_refl _) _).alloc (by simp; omega) _
      · by_cases h2 : pn < 0
        · go_wp2
          have hq := HT1.out.set (.int .i64 0) (.int .i64 10)
          obtain ⟨s0, s1, -, -⟩ := hq.on ((Below.refl _ _).alloc (Nat.le_refl _) (.cells #[.int .i64 pn, .int .i64 0] 28)) hq.lt
          refine bodyPost_ret (v := .agg #[.int .i64 0, .int .i64 10]) (by simp [results, Tryd.results10, go_sem, s0, s1]) rfl ⟨agg_ii HR.out.2.symm HR.out.1.symm, ?_⟩
          exact ((HB1.out.setCell (p := ⟨w.heap.size, 0, none⟩) (Nat.le_refl _) _).setCell (p := ⟨w.heap.size, 1, none⟩) (Nat.le_refl _) _).alloc (by simp; omega) _
        · go_wp2
          have hq := HT1.out.set (.int .i64 0) (.int .i64 10)
          obtain ⟨s0, s1, -, -⟩ := hq.on ((Below.refl _ _).alloc (Nat.le_refl _) (.cells #[.int .i64 pn, .int .i64 0] 28)) hq.lt
          refine bodyPost_ret (v := .agg #[.int .i64 0, .int .i64 10]) (by simp [results, Tryd.results10, go_sem, s0, s1]) rfl ⟨agg_ii HR.out.2.symm HR.out.1.symm, ?_⟩
          exact ((HB1.out.setCell (p := ⟨w.heap.size, 0, none⟩) (Nat.le_refl _) _).setCell (p := ⟨w.heap.size, 1, none⟩) (Nat.le_refl _) _).alloc (by simp; omega) _
    · have HR := Lib.hid (HG.out rfl h1)
      have h2 : ¬ pn < 0 := fun h => h1 (Or.inl h)
      have h3 : ¬ most < pn := fun h => h1 (Or.inr h)
      clear h1
      go_wp2
      have hq := HT1.out.set (.int .i64 pn) (.int .i64 0)
      obtain ⟨s0, s1, -, -⟩ := hq.on ((Below.refl _ _).alloc (Nat.le_refl _) (.cells #[.int .i64 pn, .int .i64 0] 28)) hq.lt
      refine bodyPost_ret (v := .agg #[.int .i64 pn, .int .i64 0]) (by simp [results, Tryd.results10, go_sem, s0, s1]) rfl ⟨agg_ii HR.out.2.symm HR.out.1.symm, ?_⟩
      exact ((HB1.out.setCell (p := ⟨w.heap.size, 0, none⟩) (Nat.le_refl _) _).setCell (p := ⟨w.heap.size, 1, none⟩) (Nat.le_refl _) _).alloc (by simp; omega) _
  · have HR := Lib.hid (HB.out h0)
    have HZ0 := HZ.out h0
    subst HZ0
    have t : (pe != 0) = true := by simpa using h0
    have t2 : (pe == 0) = false := by simpa using h0
    clear h0
    go_wp2
    have hq := HT1.out.set (.int .i64 0) (.int .i64 pe)
    obtain ⟨s0, s1, -, -⟩ := hq.on ((Below.refl _ _).alloc (Nat.le_refl _) (.cells #[.int .i64 0, .int .i64 pe] 28)) hq.lt
    refine bodyPost_ret (v := .agg #[.int .i64 0, .int .i64 pe]) (by simp [results, Tryd.results10, go_sem, s0, s1]) rfl ⟨agg_ii HR.out.2.symm HR.out.1.symm, ?_⟩
    exact ((HB1.out.setCell (p := ⟨w.heap.size, 0, none⟩) (Nat.le_refl _) _).setCell (p := ⟨w.heap.size, 1, none⟩) (Nat.le_refl _) _).alloc (by simp; omega) _
end Go.Proofs.YtdianpdjcgcifaaDoor
