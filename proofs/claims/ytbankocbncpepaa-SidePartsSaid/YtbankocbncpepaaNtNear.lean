/- Contract of Near of a graph: the list lies in a block of its own. -/
import Derived.Test.YtbankocbncpepaaNtAsk2
namespace Go.Proofs.Ytbankocbncpepaa.Nn
open Go.RowKit Go.ChangeShapes EdPure NtPure
def IntOwn (l : List Int) (w : World) (e : Ending) (w' : World) : Prop := Below w.heap.size w w' ∧ ∃ v, e = .returned v ∧ w'.ownsRow w.heap.size 3 1 v l.length (l.map encZ)
set_option maxRecDepth 100000 in
theorem cloneIO_any (a : Option Addr) (c : Nat) (l : List Int) (hl : l.length ≤ 1048576) (w : World) (h : ReadsL encZ w.heap.size w a l) :
    Calls Try.prog 31 #[.slice a l.length c] w fun e w' => IntOwn l w e w' := by
  have HR := Lib.hid h
  clear h
  have q22 : ∀ (w : World) (a : Option Addr) (n c n' c' : Nat), (binOp .eql 23 (.slice a n c) (.slice none n' c')).run Try.prog w = .ok (.bool a.isNone) w := fun w a n c n' c' => Lib.run_eql_slice_nil w _ _ a n c n' c' Try.underlying23
  cases a with
  | none =>
    have e : l = [] := by
      rcases HR.out with h | ⟨b, off, h, -⟩
      · exact h
      · cases h
    subst e
    go_enter Try.func31, Try.ntmps31
    go_wp2
    go_ret
    exact ⟨Below.refl _ _, _, rfl, World.ownsRow_nil _ _ _ _⟩
  | some ad =>
    obtain ⟨i1, hi1, hi2, hi3, hi4⟩ := info_parts (show (Try.prog.info? 3).map (fun i => (i.zero, i.size, i.bytes)) = some (some (.int .i64 0), 1, 8) by kernel_rfl)
    go_enter Try.func31, Try.ntmps31
    go_wp2_with (first
      | (at_builtin; refine wpList_append_own_at _ rfl _ _ 23 rfl w.heap.size 3 i1 (.int .i64 0) 1 8 Try.underlying23 hi1 hi2 hi3 hi4 rfl (by decide) (.slice (some ⟨w.heap.size, 0, none⟩) 0 0) 0 [] rfl (World.ownsRow_made w #[] 0 (Nat.le_refl _) (Nat.zero_le _) (by simp)) ad l.length c (l.map encZ) rfl (by simp) (fun j u hj => reads_newsI (HR.out.over ((Below.refl w.heap.size w).alloc (Nat.le_refl _) (.cells #[] 3)) (Nat.le_refl _)) j u hj) (by intro u hu; obtain ⟨m, -, rfl⟩ := List.mem_map.1 hu; rfl) (by unfold maxLen; omega) (by omega) (by simp) ?_; intro v' w6 hown6 hg6 _ _
         have hb6 : Below w.heap.size w w6 := ((Below.refl w.heap.size w).alloc (Nat.le_refl _) (.cells #[] 3)).grown hg6 (by simp) (by intro k hk; simp [Value.ownBlock] at hk; omega)
         rw [Nat.zero_add, List.nil_append] at hown6
         have HW := Lib.hid (And.intro hown6 hb6); clear hown6 hg6 hb6)
      | go_in)
    go_ret
    exact ⟨HW.out.2, _, rfl, HW.out.1⟩
end Go.Proofs.Ytbankocbncpepaa.Nn
