/- The document's answers of layer 14: is it an order, its inverse, a list in an order. -/
import Derived.Test.YtemcbhbobfjnkaaRankApply
import Derived.OwnWalk
namespace Go.Proofs.Ytemcbhbobfjnkaa
open Go.RowKit Go.ChangeShapes RankPure
/-- So far it is an order. -/
def OrdUp (p : List Int) (k : Nat) : Prop := k ≤ p.length ∧ (p.take k).Nodup ∧ ∀ x ∈ p.take k, 0 ≤ x ∧ x < (p.length : Int)
theorem OrdUp.step {p : List Int} {k : Nat} (h : OrdUp p k) (hk : k < p.length) (h1 : 0 ≤ p[k]) (h2 : p[k] < (p.length : Int)) (hn : p[k] ∉ p.take k) : OrdUp p (k + 1) := by
  obtain ⟨_, h6, h7⟩ := h
  have ht : p.take (k + 1) = p.take k ++ [p[k]] := take_snoc p k hk
  refine ⟨hk, ?_, ?_⟩
  · rw [ht, List.nodup_append]
    exact ⟨h6, by simp, fun x hx y hy => by rw [List.mem_singleton] at hy; rw [hy]; exact fun e' => hn (e' ▸ hx)⟩
  · rw [ht]
    intro x hx
    rcases List.mem_append.1 hx with hx | hx
    · exact h7 x hx
    · rw [List.mem_singleton] at hx; rw [hx]; exact ⟨h1, h2⟩
theorem OrdUp.whole {p : List Int} (h : OrdUp p p.length) : ordB p = true := by
  obtain ⟨_, h6, h7⟩ := h
  rw [List.take_length] at h6 h7
  exact decide_eq_true ⟨h6, h7⟩
set_option maxHeartbeats 1000000 in
theorem refOrder_any (a : Option Addr) (c : Nat) (p : List Int) (hp : p.length ≤ 1000) (w : World) (hR : ReadsL encZ w.heap.size w a p) :
    Calls Try.prog 18 #[.slice a p.length c] w fun e w' => e = .returned (.bool (ordB p)) ∧ ∃ m, w' = w.drewN m := by
  have HL := Lib.hid hR
  have H0 : Hid (OrdUp p 0) := Lib.hid ⟨Nat.zero_le _, by simp, by simp⟩
  clear hR
  go_enter Try.func18, Try.ntmps18
  go_wp2
  go_loopw [3] (fun i wr => ∃ k m : Nat, i = .int .i64 k ∧ wr = w.drewN m ∧ Hid (OrdUp p k)) (fun i _ => p.length - (intOf i).toNat)
  case atStart => exact ⟨0, 0, rfl, rfl, H0⟩
  case round =>
    obtain ⟨k, m, rfl, rfl, HU⟩ := hrel
    have hkn := HU.out.1
    by_cases hlt : k < p.length
    · obtain ⟨b, off, rfl, hbN, d1⟩ := HL.out.at hlt
      have i1 : (k : Int) < (p.length : Int) := by omega
      have HNO : Hid (p[k] < 0 ∨ (p.length : Int) ≤ p[k] → ordB p = false) := Lib.hid (fun h => decide_eq_false (not_ord_out hlt h))
      have HNT : Hid (p[k] ∈ p.take k → ordB p = false) := Lib.hid (fun h => decide_eq_false (not_ord_twice hlt h))
      have HST : Hid (0 ≤ p[k] → p[k] < (p.length : Int) → p[k] ∉ p.take k → OrdUp p (k + 1)) := Lib.hid (HU.out.step hlt)
      unfold encZ at d1
      by_cases hneg : p[k] < 0
      · have HX := Lib.hid (HNO.out (Or.inl hneg))
        generalize p[k] = x at *
        go_wp2
        go_ret
        exact ⟨bool_ret HX.out.symm, m, rfl⟩
      · by_cases hbig : (p.length : Int) ≤ p[k]
        · have HX := Lib.hid (HNO.out (Or.inr hbig))
          generalize p[k] = x at *
          go_wp2
          go_ret
          exact ⟨bool_ret HX.out.symm, m, rfl⟩
        · have h0 : 0 ≤ p[k] := by omega
          have h2 : p[k] < (p.length : Int) := by omega
          have HS2 := Lib.hid (HST.out h0 h2)
          clear HST HNO
          obtain ⟨x, hx⟩ : ∃ x, x = p[k] := ⟨_, rfl⟩
          rw [← hx] at d1 h0 h2
          have HE := Lib.hid hx
          clear hx hneg hbig
          go_wp2
          obtain ⟨W0, hW0⟩ : ∃ W0, W0 = w.drewN m := ⟨_, rfl⟩
          go_loopw [4] (fun i wr => ∃ j m : Nat, i = .int .i64 j ∧ wr = w.drewN m ∧ Hid (j ≤ k ∧ x ∉ p.take j)) (fun i _ => k - (intOf i).toNat)
          case atStart => exact ⟨0, m, rfl, rfl, Lib.hid ⟨Nat.zero_le _, by simp⟩⟩
          case round =>
            obtain ⟨j, m2, rfl, rfl, HJ⟩ := hrel
            by_cases hjk : j < k
            · have i2 : (j : Int) < (k : Int) := by omega
              have i3 : (j : Int) < (p.length : Int) := by omega
              obtain ⟨b', off', hab, hbN', d2⟩ := HL.out.at (show j < p.length by omega)
              simp only [Option.some.injEq, Addr.mk.injEq, and_true] at hab
              obtain ⟨rfl, rfl⟩ := hab
              unfold encZ at d2
              by_cases he : p[j] = x
              · have HX := Lib.hid (HNT.out (List.mem_take_iff_getElem.2 ⟨j, by omega, he.trans HE.out⟩))
                have t : (x == x) = true := by simp
                rw [he] at d2
                clear he
                go_wp2
                go_quiet (fail)
                go_wp2
                go_ret
                exact ⟨bool_ret HX.out.symm, _, World.drewN_drewN _ _ _⟩
              · have t : (p[j] == x) = false := by simpa using he
                have HN : Hid (j + 1 ≤ k ∧ x ∉ p.take (j + 1)) := Lib.hid ⟨hjk, by
                  rw [take_snoc p j (by omega), List.mem_append, List.mem_singleton]
                  rintro (h | h)
                  · exact HJ.out.2 h
                  · exact he h.symm⟩
                clear he
                generalize p[j] = y at *
                go_wp2
                go_quiet (fail)
                go_wp2
                go_roundw
                case rel => exact ⟨j + 1, _, by go_num, rfl, HN⟩
                case measure => (simp [intOf] <;> omega)
            · have hje : j = k := by have := HJ.out.1; omega
              have HN : Hid (OrdUp p (k + 1)) := Lib.hid (HS2.out (by have := HJ.out.2; rw [hje, HE.out] at this; exact this))
              go_wp2
              go_roundw
              case rel => exact ⟨k + 1, m2, by go_num, rfl, HN⟩
              case measure => (simp [intOf] <;> omega)
    · have hke : k = p.length := by omega
      subst hke
      have HW := Lib.hid HU.out.whole
      go_wp2
      go_ret
      exact ⟨bool_ret HW.out.symm, m, rfl⟩
end Go.Proofs.Ytemcbhbobfjnkaa
