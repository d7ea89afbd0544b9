/- Ints (of the document's answers of layer 9) tells of any two lists whether they are the same. -/
import Derived.Test.YtbankocbncpepaaList
import Derived.Deep.QuietTactic
import Derived.BigQuiet
namespace Go.Proofs.Ytbankocbncpepaa
open Go.RowKit Go.ChangeShapes
def encZ (z : Int) : Value := .int .i64 z
/-- Ints of any two lists. -/
def EqRel (l r : List Int) (w0 : World) (k : Nat) (w : World) : Prop := k ≤ l.length ∧ (∃ m, w = w0.drewN m) ∧ l.take k = r.take k
theorem ints_any (a a' : Option Addr) (c1 c2 : Nat) (l r : List Int) (w : World) (h1 : ReadsL encZ w.heap.size w a l) (h2 : ReadsL encZ w.heap.size w a' r) (hl1 : l.length ≤ 1000000000) :
    Calls Try.prog 17 #[.slice a l.length c1, .slice a' r.length c2] w fun e w' => e = .returned (.bool (decide (l = r))) ∧ ∃ m, w' = w.drewN m := by
  have H1 := Lib.hid h1
  have H2 := Lib.hid h2
  clear h1 h2
  by_cases hn : l.length = r.length
  · have t : ((l.length : Int) != (r.length : Int)) = false := by simp [hn]
    have HN := Lib.hid hn
    go_enter Try.func17, Try.ntmps17
    clear hn
    go_wp2
    go_loopw [5] (fun i wr => ∃ k : Nat, i = .int .i64 k ∧ Hid (EqRel l r w k wr)) (fun i _ => l.length - (intOf i).toNat)
    case atStart => exact ⟨0, rfl, Lib.hid ⟨Nat.zero_le _, ⟨0, rfl⟩, rfl⟩⟩
    case round =>
      obtain ⟨k, rfl, HK⟩ := hrel
      have hk := HK.out.1
      obtain ⟨m, rfl⟩ := HK.out.2.1
      have i0 : (0 : Int) ≤ (k : Int) := by omega
      by_cases hlt : k < l.length
      · have hlt2 : k < r.length := by have := HN.out; omega
        have i1 : (k : Int) < (l.length : Int) := by omega
        have i2 : (k : Int) < (r.length : Int) := by omega
        obtain ⟨b, off, rfl, hbN, d1⟩ := H1.out.at hlt
        obtain ⟨b', off', rfl, hbN', d2⟩ := H2.out.at hlt2
        unfold encZ at d1 d2
        by_cases he : l[k] = r[k]
        · have hN : Hid (l.take (k + 1) = r.take (k + 1)) := Lib.hid (by rw [take_snoc l k hlt, take_snoc r k hlt2, HK.out.2.2, he])
          rw [he] at d1
          clear he
          generalize r[k] = x at *
          go_wp2
          go_quiet (fail)
          go_wp2
          go_roundw
          case rel => exact ⟨k + 1, by go_num, Lib.hid ⟨by omega, ⟨_, rfl⟩, hN.out⟩⟩
          case measure => (simp [intOf] <;> omega)
        · have hN : Hid (decide (l = r) = false) := Lib.hid (by refine decide_eq_false (fun h => he ?_); subst h; rfl)
          have t2 : (l[k] != r[k]) = true := by simpa using he
          clear he
          generalize l[k] = x at *
          generalize r[k] = y at *
          go_wp2
          go_quiet (fail)
          go_wp2
          go_ret
          exact ⟨bool_ret hN.out.symm, _, World.drewN_drewN _ _ _⟩
      · have hke : k = l.length := by omega
        have hfin : l = r := by
          have := HK.out.2.2
          rw [hke, List.take_length, HN.out, List.take_length] at this
          exact this
        have HF := Lib.hid hfin
        clear hfin
        go_wp2
        go_ret
        exact ⟨bool_ret (by rw [decide_eq_true HF.out]), _, rfl⟩
  · have t : ((l.length : Int) != (r.length : Int)) = true := by
      have : (l.length : Int) ≠ (r.length : Int) := fun e => hn (by omega)
      simpa using this
    have HN : Hid (decide (l = r) = false) := Lib.hid (decide_eq_false (fun e => hn (by rw [e])))
    clear hn
    go_enter Try.func17, Try.ntmps17
    go_wp2
    go_ret
    exact ⟨bool_ret HN.out.symm, 0, rfl⟩
end Go.Proofs.Ytbankocbncpepaa
