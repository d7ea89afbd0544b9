/- The document's inverse of an order, and a list in an order. -/
import Derived.Test.YtemcbhbobfjnkaaRankRef1
import Derived.Test.YtemcbhbobfjnkaaTurn
namespace Go.Proofs.Ytemcbhbobfjnkaa
open Go.RowKit Go.ChangeShapes RankPure
set_option maxHeartbeats 1000000 in
theorem refInverse_any (a : Option Addr) (c : Nat) (p : List Int) (ho : OrdP p) (hp : p.length ≤ 1000) (w : World) (hR : ReadsL encZ w.heap.size w a p) :
    Calls Try.prog 19 #[.slice a p.length c] w fun e w' => ∃ g, e = .returned (.slice (some ⟨g, 0, none⟩) p.length p.length) ∧ w.heap.size ≤ g ∧ Below w.heap.size w w' ∧ ReadsL encZ w'.heap.size w' (some ⟨g, 0, none⟩) (invL p) := by
  have HL := Lib.hid hR
  have HO := Lib.hid ho
  have hmk := makeRow (P := Try.prog) (T := 26) (E := 3) (z := .int .i64 0) (c := 8) Try.underlying26 (by kernel_rfl) (by decide) rfl p.length (by omega) w
  have HS : Hid (InvRel 0 p w.heap.size w.heap.size w 0 (w.alloc (.cells (madeCells #[.int .i64 0] p.length) 3))) := Lib.hid
    ⟨Nat.zero_le _, (Below.refl w.heap.size w).alloc (Nat.le_refl _) _, by
      rw [rowZ_zero, List.map_replicate]; exact rowIs_made w (.int .i64 0) p.length 3, by simp, Nat.le_refl _, by simp, by simp⟩
  clear hR ho
  go_enter Try.func19, Try.ntmps19
  go_wp2
  go_loopw [4] (fun i wr => ∃ k : Nat, i = .int .i64 k ∧ Hid (InvRel 0 p w.heap.size w.heap.size w k wr)) (fun i _ => p.length - (intOf i).toNat)
  case atStart => exact ⟨0, rfl, HS⟩
  case round =>
    obtain ⟨k, rfl, HR⟩ := hrel
    have hkn := HR.out.1
    by_cases hlt : k < p.length
    · obtain ⟨b, off, rfl, hbN, d1⟩ := (HL.out.on HR.out.2.1).at hlt
      have i1 : (k : Int) < (p.length : Int) := by omega
      have hr := HO.out.2 p[k] (List.getElem_mem hlt)
      obtain ⟨j, hj⟩ : ∃ j : Nat, p[k] = (j : Int) := ⟨p[k].toNat, by omega⟩
      have hjl : j < p.length := by omega
      have hn : (j : Int) ∉ p.take k := by
        rw [← hj]
        intro h
        exact not_ord_twice hlt h HO.out
      obtain ⟨d2, f2⟩ := HR.out.at hjl
      rw [if_neg hn] at d2
      have HN := Lib.hid (HR.out.step hlt hjl hj hn)
      have i2 : (j : Int) < (p.length : Int) := by omega
      unfold encZ at d1
      rw [hj] at d1
      clear hr hj hn
      go_wp2
      go_roundw
      case rel => exact ⟨k + 1, by go_num, HN⟩
      case measure => (simp [intOf] <;> omega)
    · have hke : k = p.length := by omega
      subst hke
      have HW := Lib.hid HR.out.whole
      go_wp2
      go_ret
      exact ⟨w.heap.size, rfl, Nat.le_refl _, HR.out.2.1, HW.out.2.reads⟩
theorem apply_snoc {p l : List Int} {k : Nat} (hk : k < p.length) : (applyL p l).take (k + 1) = (applyL p l).take k ++ [l.getD p[k].toNat 0] := by
  rw [take_snoc _ k (by rw [applyL_len]; exact hk), applyL_get hk]
set_option maxHeartbeats 1000000 in
theorem refApply_any (a a' : Option Addr) (c c' : Nat) (p l : List Int) (ho : OrdP p) (hl : l.length = p.length) (hp : p.length ≤ 1000) (w : World) (h1 : ReadsL encZ w.heap.size w a p) (h2 : ReadsL encZ w.heap.size w a' l) :
    Calls Try.prog 20 #[.slice a p.length c, .slice a' l.length c'] w fun e w' => (∃ q cap, e = .returned (.slice q p.length cap) ∧ ReadsL encZ w'.heap.size w' q (applyL p l)) ∧ Below w.heap.size w w' := by
  have HL1 := Lib.hid h1
  have HL2 := Lib.hid h2
  have HO := Lib.hid (And.intro ho hl)
  obtain ⟨i0, hi, hz0, hz1, hz2⟩ := info_int
  have HS : Hid (GrowRel encZ 3 w ((applyL p l).take 0) (.slice none 0 0) w) := Lib.hid (GrowRel.start _ _ _)
  clear h1 h2 ho hl
  go_enter Try.func20, Try.ntmps20
  go_wp2
  go_loopw [5, 6] (fun s i wr => ∃ (k : Nat) (v : Value), k ≤ p.length ∧ i = .int .i64 k ∧ v = s ∧ Hid (GrowRel encZ 3 w ((applyL p l).take k) v wr)) (fun _ i _ => p.length - (intOf i).toNat)
  case atStart => exact ⟨0, _, Nat.zero_le _, rfl, rfl, HS⟩
  case round =>
    obtain ⟨k, v, hkn, rfl, rfl, HR⟩ := hrel
    by_cases hlt : k < p.length
    · obtain ⟨b, off, rfl, hbN, d1⟩ := (HL1.out.on HR.out.1).at hlt
      have i1 : (k : Int) < (p.length : Int) := by omega
      have hr := HO.out.1.2 p[k] (List.getElem_mem hlt)
      have hll := HO.out.2
      obtain ⟨j, hj⟩ : ∃ j : Nat, p[k] = (j : Int) := ⟨p[k].toNat, by omega⟩
      have hjl : j < l.length := by omega
      obtain ⟨b', off', rfl, hbN', d2⟩ := (HL2.out.on HR.out.1).at hjl
      have i2 : (j : Int) < (l.length : Int) := by omega
      have HA : Hid ((applyL p l).take (k + 1) = (applyL p l).take k ++ [l[j]]) := Lib.hid (by rw [apply_snoc hlt, hj, Int.toNat_natCast, getD_at hjl])
      have hln : ((applyL p l).take k).length = k := by rw [List.length_take, applyL_len]; omega
      have hHB := HR.out.1.size
      unfold encZ at d1 d2
      rw [hj] at d1
      clear hr hj hll
      generalize l[j] = x at *
      go_wp2_with (first
        | (at_builtin; refine wpList_append_own_at _ rfl _ _ 26 rfl w.heap.size 3 i0 (.int .i64 0) 1 8 Try.underlying26 hi hz0 hz1 hz2 rfl (by decide) v ((applyL p l).take k).length (((applyL p l).take k).map encZ) rfl (HR.out.2.alloc _) ⟨wr.heap.size, 0, none⟩ 1 1 [.int .i64 x] rfl rfl one_news (by intro u hu; simp at hu; subst hu; rfl) (by unfold maxLen; omega) (by omega) (by simp; omega) ?_; intro v' w1 hown hgrow _ _))
      have HN : Hid (GrowRel encZ 3 w ((applyL p l).take (k + 1)) v' w1) := Lib.hid (by rw [HA.out]; exact HR.out.step x hown hgrow)
      clear hown hgrow
      go_wp2
      go_roundw
      case rel => exact ⟨k + 1, v', by omega, by go_num, rfl, HN⟩
      case measure => (simp [intOf] <;> omega)
    · have hke : k = p.length := by omega
      have HF : Hid (GrowRel encZ 3 w (applyL p l) v wr) := Lib.hid (by have := HR.out; rwa [hke, List.take_of_length_le (by rw [applyL_len]; exact Nat.le_refl _)] at this)
      go_wp2
      go_ret
      obtain ⟨q, cap, rfl, hr, -⟩ := HF.out.reads
      exact ⟨⟨q, cap, by rw [applyL_len]; rfl, hr⟩, HF.out.1⟩
end Go.Proofs.Ytemcbhbobfjnkaa
