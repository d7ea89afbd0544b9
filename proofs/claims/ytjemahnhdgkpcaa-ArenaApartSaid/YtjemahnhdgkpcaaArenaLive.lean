/- Contract of Live of an arena; two lists of numbers that are the same. -/
import Derived.Test.YtjemahnhdgkpcaaArenaGive
namespace Go.Proofs.Ytjemahnhdgkpcaa
open Go.RowKit Go.ChangeShapes ArenaPure
theorem live_nil (w : World) :
    Calls Try.prog 20 #[.pointer none] w fun e w' => e = .returned (.slice none 0 0) ∧ w = w' := by
  go_enter Try.func20, Try.ntmps20
  go_wp2
  go_ret
  exact ⟨rfl, rfl⟩
theorem info_int : ∃ i, (Try.prog.info? 3) = some i ∧ i.zero = some (.int .i64 0) ∧ i.size = 1 ∧ i.bytes = 8 := info_of (by kernel_rfl)
theorem make_room (c : Nat) (hc : c ≤ 1048576) (w : World) :
    (Instr.makeSlice 36 (.int .i64 0) (.int .i64 (c : Int))).run Try.prog w = .ok (.slice (some ⟨w.heap.size, 0, none⟩) 0 c) (w.alloc (.cells (madeCells #[.int .i64 0] c) 3)) := by
  obtain ⟨i, h1, h2, h3, h4⟩ := info_int
  rw [run_make w 36 3 i _ Try.underlying36 h1 h2 .i64 .i64 0 (c : Int) (by omega) (by omega) (by rw [h4]; omega) (by omega), h3]
  simp [Value.cells]
/-- What a call that gathers numbers answers. -/
def ListOut (l : List Int) (w w' : World) (v : Value) : Prop := ∃ q c, v = .slice q l.length c ∧ ReadsL encZ w'.heap.size w' q l ∧ Below w.heap.size w w'
theorem live_any (O : Nat → Prop) (b N : Nat) (S : St) (w : World) (h : ArAt O b w N S) :
    Calls Try.prog 20 #[.pointer (some ⟨b, 0, none⟩)] w fun e w' => ∃ v, e = .returned v ∧ ListOut (liveL S) w w' v := by
  have HA := Lib.hid h
  have hN := h.1
  have hle := live_le h.2.1
  obtain ⟨v, f, cs, hfit, h4, hown, -⟩ := h.2.2
  have hl := hfit.1
  have hcs : cs.length ≤ 1048576 := by have := h.2.1.2.1; omega
  obtain ⟨q, cap, rfl⟩ := owns_any hown
  obtain ⟨⟨-, c1, c2, -⟩, -⟩ := h4.cells
  have hb := h4.lt
  have hmk := make_room (liveN S) (by omega) w
  obtain ⟨i, hi1, hi2, hi3, hi4⟩ := info_int
  have HK : Hid (liveL S = liveUp S cs.length) := Lib.hid (by rw [hl]; rfl)
  have HC : Hid (∀ W, Below w.heap.size w W → ∀ k, k < cs.length → ∃ g c, q = some ⟨g, 0, none⟩ ∧ g < W.heap.size ∧ W.cell? ⟨g, k * 3 + 1, none⟩ = some (.bool c) ∧ S.I[k]? = some c) := Lib.hid fun W hB k hk => by
    obtain ⟨g, cap', e, -, hg⟩ := owns_slice hown (by omega)
    cases e
    have hck := List.getElem?_eq_getElem hk
    exact ⟨g, _, rfl, Nat.lt_of_lt_of_le hg hB.size, (hB.cell (p := ⟨g, k * 3 + 1, none⟩) hg).trans (cell_at hown hck).1.2.1, (hfit.2.1 k _ hck).1⟩
  have HG : Hid (∀ T, T = 3 → GrowRel encZ T w (liveUp S 0) (.slice (some ⟨w.heap.size, 0, none⟩) 0 (liveN S)) (w.alloc (.cells (madeCells #[.int .i64 0] (liveN S)) T))) := Lib.hid fun T _ =>
    ⟨(Below.refl _ w).alloc (Nat.le_refl _) _, World.ownsRow_made w _ _ (Nat.le_refl _) (by unfold maxLen; omega) (by simp [madeCells])⟩
  clear h hfit h4 hown hl hle
  generalize liveN S = L at *
  generalize cs.length = K at *
  go_enter Try.func20, Try.ntmps20
  go_wp2
  go_loopw [17, 3] (fun i s wr => ∃ (k : Nat) (v : Value), k ≤ K ∧ i = .int .i64 k ∧ v = s ∧ Hid (GrowRel encZ 3 w (liveUp S k) v wr)) (fun i _ _ => K - (intOf i).toNat)
  case atStart => exact ⟨0, _, Nat.zero_le _, rfl, rfl, Lib.hid (HG.out _ rfl)⟩
  case round =>
    obtain ⟨k, v, hk, rfl, rfl, HR⟩ := hrel
    clear HG hmk
    have i0 : (0 : Int) ≤ (k : Int) := by omega
    by_cases hlt : k < K
    · have i1 : (k : Int) < (K : Int) := by omega
      obtain ⟨g, c, rfl, hg, d1, d2⟩ := HC.out wr HR.out.1 k hlt
      have c1' : wr.cell? ⟨b, 1, none⟩ = some (.slice (some ⟨g, 0, none⟩) K cap) := (HR.out.1.cell (p := ⟨b, 1, none⟩) hb).trans c1
      have hb' : b < wr.heap.size := Nat.lt_of_lt_of_le hb HR.out.1.size
      have hul := liveUp_len S k
      cases c
      · have HU := Lib.hid (liveUp_no d2)
        clear d2 hul
        go_wp2
        go_roundw
        case rel => exact ⟨k + 1, _, by omega, by go_num, rfl, by rw [HU.out]; exact HR⟩
        case measure => (simp [intOf] <;> omega)
      · have HU := Lib.hid (liveUp_yes d2)
        clear d2
        generalize liveUp S k = xs at *
        go_wp2_with (first
          | (at_builtin; refine wpList_append_own_at _ rfl _ _ 36 rfl w.heap.size 3 i (.int .i64 0) 1 8 Try.underlying36 hi1 hi2 hi3 hi4 rfl (by decide) v xs.length (xs.map encZ) rfl (HR.out.2.alloc _) ⟨wr.heap.size, 0, none⟩ 1 1 [.int .i64 (k : Int)] rfl rfl one_news (by intro u hu; simp at hu; subst hu; rfl) (by unfold maxLen; omega) (by omega) (by have := HR.out.1.size; simp; omega) ?_; intro v' w6 hown6 hg6 _ _; have HS6 := Lib.hid (HR.out.step (k : Int) hown6 hg6); clear hown6 hg6; rw [← HU.out] at HS6)
          | go_in)
        go_roundw
        case rel => exact ⟨k + 1, _, by omega, by go_num, rfl, HS6⟩
        case measure => (simp [intOf] <;> omega)
    · have hge : ¬ (k : Int) < (K : Int) := by omega
      have hke : k = K := by omega
      have HE : Hid (liveUp S k = liveL S) := Lib.hid (by rw [hke, HK.out])
      clear hke
      go_wp2
      go_ret
      refine ⟨_, rfl, ?_⟩
      have := HR.out
      rw [HE.out] at this
      obtain ⟨q', c', e, hr, -⟩ := this.reads
      exact ⟨q', c', e, hr, this.1⟩
end Go.Proofs.Ytjemahnhdgkpcaa
