/- A contract for the document's own look whether two lists are alike, of alike ones. -/
import Derived.Test.YtemcbhbobfjnkaaList
import Derived.Deep.QuietTactic
import Derived.BigQuiet
namespace Go.Proofs.Ytemcbhbobfjnkaa
open Go.RowKit Go.ChangeShapes
set_option maxHeartbeats 400000 in
/-- Of equal lists Same tells that they are. -/
theorem sameL_any (p q : Option Addr) (c d : Nat) (l : List Int) (w : World) (h1 : ReadsL (encInt .i64) w.heap.size w p l) (h2 : ReadsL (encInt .i64) w.heap.size w q l) (hlen : l.length ≤ 1000000) :
    Calls Try.prog 13 #[.slice p l.length c, .slice q l.length d] w fun e w' => e = .returned (.bool true) ∧ Below w.heap.size w w' := by
  have H1 := Lib.hid h1
  have H2 := Lib.hid h2
  have HS := Lib.hid (Below.refl w.heap.size w)
  clear h1 h2
  go_enter Try.func13, Try.ntmps13
  go_wp2
  go_loopw [5] (fun i wr => ∃ k : Nat, i = .int .i64 k ∧ k ≤ l.length ∧ Hid (Below w.heap.size w wr)) (fun i _ => l.length - (intOf i).toNat)
  case atStart => exact ⟨0, rfl, Nat.zero_le _, HS⟩
  case round =>
    obtain ⟨k, rfl, hk, HB⟩ := hrel
    by_cases hlt : k < l.length
    · obtain ⟨b0, o0, rfl, -, g0⟩ := (H1.out.on HB.out).at hlt
      obtain ⟨b1, o1, rfl, -, g1⟩ := (H2.out.on HB.out).at hlt
      unfold encInt at g0 g1
      generalize l[k] = x at *
      go_wp2
      go_quiet (fail)
      go_wp2
      go_roundw
      case rel => exact ⟨k + 1, by go_num, hlt, below_drewN HB.out _⟩
      case measure => (simp [intOf] <;> omega)
    · have hke : k = l.length := by omega
      subst hke
      go_wp2
      go_ret
      exact ⟨rfl, HB.out⟩
end Go.Proofs.Ytemcbhbobfjnkaa
