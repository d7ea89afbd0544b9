/- A contract for Apply. -/
import Derived.Test.YtemcbhbobfjnkaaRankInv
namespace Go.Proofs.Ytemcbhbobfjnkaa
open Go.RowKit Go.ChangeShapes RankPure
theorem getD_at {l : List Int} {i : Nat} (hi : i < l.length) : l.getD i 0 = l[i] := by rw [List.getD_eq_getElem?_getD, List.getElem?_eq_getElem hi]; rfl
theorem pick_any (L P : Nat) (a a' : Option Addr) (c c' : Nat) (p l : List Int) (i : Nat) (hi : i < p.length) (hp : OrdP p) (hl : l.length = p.length) (w : World)
    (hL : w.cell? ⟨L, 0, none⟩ = some (.slice a' l.length c')) (hP : w.cell? ⟨P, 0, none⟩ = some (.slice a p.length c)) (h1 : ReadsL encZ w.heap.size w a p) (h2 : ReadsL encZ w.heap.size w a' l) :
    Calls Try.prog 27 #[.int .i64 (i : Int), .pointer (some ⟨L, 0, none⟩), .pointer (some ⟨P, 0, none⟩)] w fun e w' => e = .returned (.int .i64 (l.getD (p.getD i 0).toNat 0)) ∧ ∃ m, w' = w.drewN m := by
  obtain ⟨j, hj⟩ : ∃ j : Nat, p[i] = (j : Int) := ⟨p[i].toNat, by have := hp.2 p[i] (List.getElem_mem hi); omega⟩
  have hjl : j < l.length := by have := hp.2 p[i] (List.getElem_mem hi); omega
  obtain ⟨b, off, rfl, hbN, d1⟩ := h1.at hi
  obtain ⟨b', off', rfl, hbN', d2⟩ := h2.at hjl
  rw [hj] at d1
  rw [getD_at hi, hj, Int.toNat_natCast, getD_at hjl]
  unfold encZ at d1 d2
  generalize l[j] = x at *
  have i1 : (i : Int) < (p.length : Int) := by omega
  have i2 : (j : Int) < (l.length : Int) := by omega
  clear h1 h2 hp hj hl
  go_enter Try.func27, Try.ntmps27
  go_wp2
  go_quiet (fail)
  go_wp2
  go_ret
  exact ⟨rfl, _, rfl⟩
theorem apply_fill {p l : List Int} (f : Nat → Int) (hf : ∀ i, i < p.length → f i = l.getD (p.getD i 0).toNat 0) : (List.range p.length).map f = applyL p l := by
  refine List.ext_getElem (by rw [applyL_len]; simp) fun i h1 h2 => ?_
  have hi : i < p.length := by simpa using h1
  rw [applyL_get hi, List.getElem_map, List.getElem_range, hf i hi, getD_at hi]
/-- What Apply tells. -/
def AppOut (p l : List Int) (N : Nat) (e : Ending) (w' : World) : Prop :=
  ((OrdP p ∧ l.length = p.length) ∧ ∃ g, e = .returned (.tuple #[.slice (some ⟨g, 0, none⟩) p.length p.length, .bool true]) ∧ N ≤ g ∧ ReadsL encZ w'.heap.size w' (some ⟨g, 0, none⟩) (applyL p l)) ∨
  (¬ (OrdP p ∧ l.length = p.length) ∧ e = .returned (.tuple #[.slice none 0 0, .bool false]))
set_option maxHeartbeats 1000000 in
theorem apply_any (a a' : Option Addr) (c c' : Nat) (p l : List Int) (hp1 : p.length ≤ 1000) (w : World) (h1 : ReadsL encZ w.heap.size w a p) (h2 : ReadsL encZ w.heap.size w a' l) :
    Calls Try.prog 17 #[.slice a p.length c, .slice a' l.length c'] w fun e w' => AppOut p l w.heap.size e w' ∧ Below w.heap.size w w' := by
  have hmf' := hmf
  obtain ⟨w0, hw0⟩ : ∃ w0, (w.alloc (.cells #[.slice a p.length c] 26)).alloc (.cells #[.slice a' l.length c'] 26) = w0 := ⟨_, rfl⟩
  have hb0 : Below w.heap.size w w0 := by rw [← hw0]; exact ((Below.refl _ _).alloc (Nat.le_refl _) _).alloc (by simp) _
  have hs0 : w0.heap.size = w.heap.size + 2 := by rw [← hw0]; simp
  have hcp : w0.cell? ⟨w.heap.size, 0, none⟩ = some (.slice a p.length c) := by
    rw [← hw0]
    exact ((CellAt.new w (.slice a p.length c) 26).keep ((Below.refl _ _).alloc (Nat.le_refl _) _)).1
  have hcl : w0.cell? ⟨w.heap.size + 1, 0, none⟩ = some (.slice a' l.length c') := by
    rw [← hw0]
    simp
  have HI := Lib.hid (inverse_any a c p hp1 w0 (h1.over hb0 (Nat.le_refl _)))
  have HW0 := Lib.hid hw0
  have HB := Lib.hid (And.intro hb0 (And.intro hcp hcl))
  have HR := Lib.hid (And.intro h1 h2)
  have HZ := Lib.hid hs0
  clear h1 h2 hw0 hb0 hcl
  have hlt0 : w.heap.size < w0.heap.size := by omega
  clear hs0
  go_enter Try.func17, Try.ntmps17
  go_wp2_with fail
  rw [HW0.out]
  refine HI.out.mono ?_
  rintro e w1 ⟨h3 | h3, hb1⟩
  · obtain ⟨ho, g, rfl, hg, hr⟩ := h3
    have hb2 : Below w.heap.size w w1 := HB.out.1.trans (hb1.mono (by have := HZ.out; omega))
    have k1 := (hb1.cell (p := ⟨w.heap.size, 0, none⟩) (by have := HZ.out; simp; omega)).trans HB.out.2.1
    have k2 := (hb1.cell (p := ⟨w.heap.size + 1, 0, none⟩) (by have := HZ.out; simp; omega)).trans HB.out.2.2
    have hz1 : w.heap.size + 1 < w1.heap.size := by have := HZ.out; have := hb1.size; omega
    have H1 := Lib.hid (And.intro ho hb2)
    clear hb1 hr hg ho hb2
    by_cases hl : l.length = p.length
    · have t : ((p.length : Int) != (l.length : Int)) = false := by simp [hl]
      have HF : Hid (Calls Try.prog 25 #[.int .i64 (p.length : Int), .func (.func 27) #[] #[.pointer (some ⟨w.heap.size + 1, 0, none⟩), .pointer (some ⟨w.heap.size, 0, none⟩)]] w1 fun e w' => e = .returned (.slice (some ⟨w1.heap.size, 0, none⟩) p.length p.length) ∧ FillRel (fun i => l.getD (p.getD i 0).toNat 0) w1 p.length p.length w') :=
        Lib.hid (fill_any 27 _ (fun i => l.getD (p.getD i 0).toNat 0) p.length hp1 w1 (enters_of Try.func27 (by kernel_rfl) rfl)
          (fun i W hi hW => pick_any (w.heap.size + 1) w.heap.size a a' c c' p l i hi H1.out.1 hl W ((hW.cell (p := ⟨w.heap.size + 1, 0, none⟩) hz1).trans k2) ((hW.cell (p := ⟨w.heap.size, 0, none⟩) (by simp; omega)).trans k1)
            (HR.out.1.over (H1.out.2.trans (hW.mono H1.out.2.size)) (Nat.le_refl _)) (HR.out.2.over (H1.out.2.trans (hW.mono H1.out.2.size)) (Nat.le_refl _))))
      have HL := Lib.hid hl
      clear hl
      go_wp2_with fail
      refine HF.out.mono ?_
      rintro e w2 ⟨rfl, -, f2, f3, f4⟩
      have H2 := Lib.hid (And.intro f2 (And.intro f3 f4))
      clear f2 f3 f4
      go_wp2
      go_ret2
      refine ⟨Or.inl ⟨⟨H1.out.1, HL.out⟩, w1.heap.size, rfl, by omega, ?_⟩, H1.out.2.trans (H2.out.1.mono H1.out.2.size)⟩
      have hr := H2.out.2.1
      rw [fillV_whole, apply_fill _ (fun i hi => rfl)] at hr
      exact hr.reads
    · have t : ((p.length : Int) != (l.length : Int)) = true := by
        have : ¬ (p.length : Int) = (l.length : Int) := by omega
        simpa using this
      have HL : Hid (¬ (OrdP p ∧ l.length = p.length)) := Lib.hid (fun h => hl h.2)
      clear hl
      go_wp2
      go_ret2
      exact ⟨Or.inr ⟨HL.out, rfl⟩, H1.out.2⟩
  · obtain ⟨hno, rfl⟩ := h3
    have hb2 : Below w.heap.size w w1 := HB.out.1.trans (hb1.mono (by have := HZ.out; omega))
    have H1 := Lib.hid (And.intro hno hb2)
    clear hb1 hno hb2
    go_wp2
    go_ret2
    exact ⟨Or.inr ⟨fun h => H1.out.1 h.1, rfl⟩, H1.out.2⟩
end Go.Proofs.Ytemcbhbobfjnkaa
