/- Contracts of around, both Clones, Edges, Degree, Near, Total; of nil too. -/
import Derived.Test.YtbankocbncpepaaPk16
import Derived.Test.YtbankocbncpepaaPk17
import Derived.Lib.SliceRun
namespace Go.Proofs.Ytbankocbncpepaa
open Go.RowKit Go.ChangeShapes EdPure NtPure NumPure
def degV (n : Nat) (M : List Ed) (v : Int) : Int := if 0 ≤ v ∧ v < n then degE M v else 0
def nearV (n : Nat) (M : List Ed) (v : Int) : List Int := if 0 ≤ v ∧ v < n then nearE M v else []
/-- Where the ends are there, nothing is told of others. -/
theorem degV_eq {n : Nat} {M : List Ed} (h : GoodN n M) (v : Int) : degV n M v = degE M v := by
  unfold degV
  split
  · rfl
  · next hv =>
    have h1 := h.1.2
    have h2 := h.2.1
    clear h
    symm
    induction M with
    | nil => rfl
    | cons e r ih =>
      rw [deg_cons, ih (fun x hx => h1 x (by simp [hx])) (fun x hx => h2 x (by simp [hx]))]
      have := (h1 e (by simp)).1
      have := h2 e (by simp)
      unfold ofE atB
      simp only [decide_eq_true_eq]
      rw [if_neg (by omega)]
      rfl
theorem nearV_eq {n : Nat} {M : List Ed} (h : GoodN n M) (v : Int) : nearV n M v = nearE M v := by
  unfold nearV
  split
  · rfl
  · next hv =>
    symm
    unfold nearE
    rw [List.map_eq_nil_iff, List.filter_eq_nil_iff]
    intro e he
    have := (h.1.2 e he).1
    have := h.2.1 e he
    unfold atB
    simp only [decide_eq_true_eq]
    omega
def StarOut (d : Int) (l : List Int) (w : World) (e : Ending) (w' : World) : Prop :=
  Below w.heap.size w w' ∧ ∃ q c, e = .returned (.agg #[.int .i64 d, .slice q l.length c]) ∧ ReadsL encZ w'.heap.size w' q l
theorem reads_newsI {α : Type} {enc : α → Value} {N : Nat} {w : World} {ad : Addr} {l : List α} (h : ReadsL enc N w (some ad) l) : ∀ j u, (l.map enc)[j]? = some u → w.cell? (ad.add j) = some u := by
  intro j u hj
  rcases h with h | ⟨b, off, e, -, hc⟩
  · subst h; simp at hj
  · cases e
    obtain ⟨hjl, rfl⟩ := List.getElem?_eq_some_iff.1 hj
    rw [List.getElem_map, addr_add]
    exact hc j (by simpa using hjl)
theorem flat_three {l : List Ed} {j : Nat} {u : Value} (hj : (flatE l)[j]? = some u) : ∃ k r, ∃ hk : k < l.length, (j = k * 3 + r) ∧ ((r = 0 ∧ u = .int .i64 l[k].1) ∨ (r = 1 ∧ u = .int .i64 l[k].2.1) ∨ (r = 2 ∧ u = .int .i64 l[k].2.2)) := by
  have hlt := (List.getElem?_eq_some_iff.1 hj).1
  rw [flatE_len] at hlt
  have hk : j / 3 < l.length := by omega
  obtain ⟨e0, e1, e2⟩ := flatE_at hk
  have hr : j % 3 = 0 ∨ j % 3 = 1 ∨ j % 3 = 2 := by omega
  refine ⟨j / 3, j % 3, hk, by omega, ?_⟩
  rcases hr with h | h | h
  · refine Or.inl ⟨h, ?_⟩
    rw [show j = j / 3 * 3 by omega, e0] at hj
    exact (Option.some.inj hj).symm
  · refine Or.inr (Or.inl ⟨h, ?_⟩)
    rw [show j = j / 3 * 3 + 1 by omega, e1] at hj
    exact (Option.some.inj hj).symm
  · refine Or.inr (Or.inr ⟨h, ?_⟩)
    rw [show j = j / 3 * 3 + 2 by omega, e2] at hj
    exact (Option.some.inj hj).symm
theorem reads_newsE {N : Nat} {w : World} {ad : Addr} {l : List Ed} (h : ReadsE N w (some ad) l) : ∀ j u, (flatE l)[j]? = some u → w.cell? (ad.add j) = some u := by
  intro j u hj
  rcases h with h | ⟨b, off, e, -, hc⟩
  · subst h; simp [flatE] at hj
  · cases e
    obtain ⟨k, r, hk, rfl, hu⟩ := flat_three hj
    obtain ⟨c0, c1, c2⟩ := hc k hk
    rw [addr_add]
    rcases hu with ⟨rfl, rfl⟩ | ⟨rfl, rfl⟩ | ⟨rfl, rfl⟩
    · rw [Nat.add_zero]; exact c0
    · rw [← Nat.add_assoc]; exact c1
    · rw [← Nat.add_assoc]; exact c2
theorem ones_flat {l : List Ed} : ∀ u ∈ flatE l, u.oneCell' = true := by
  intro u hu
  unfold flatE at hu
  obtain ⟨e, -, he⟩ := List.mem_flatMap.1 hu
  simp only [cellE, List.mem_cons, List.not_mem_nil, or_false] at he
  rcases he with rfl | rfl | rfl <;> rfl
def IntsOut (l : List Int) (w : World) (e : Ending) (w' : World) : Prop := Below w.heap.size w w' ∧ ∃ q c, e = .returned (.slice q l.length c) ∧ ReadsL encZ w'.heap.size w' q l
def EdsOut (l : List Ed) (w : World) (e : Ending) (w' : World) : Prop := Below w.heap.size w w' ∧ ∃ q c, e = .returned (.slice q l.length c) ∧ ReadsE w'.heap.size w' q l
set_option maxRecDepth 100000 in
theorem cloneI_any (a : Option Addr) (c : Nat) (l : List Int) (hl : l.length ≤ 1048576) (w : World) (h : ReadsL encZ w.heap.size w a l) :
    Calls Try.prog 31 #[.slice a l.length c] w fun e w' => IntsOut l w e w' := by
  have HR := Lib.hid h
  clear h
  have q22 : ∀ (w : World) (a : Option Addr) (n c n' c' : Nat), (binOp .eql 23 (.slice a n c) (.slice none n' c')).run Try.prog w = .ok (.bool a.isNone) w := fun w a n c n' c' => Lib.run_eql_slice_nil w _ _ a n c n' c' Try.underlying23
  cases a with
  | none =>
    have e : l = [] := by
      rcases HR.out with h | ⟨b, off, h, -⟩
      · exact h
      · cases h
    subst e
    go_enter Try.func31, Try.ntmps31
    go_wp2
    go_ret
    exact ⟨Below.refl _ _, none, 0, rfl, Or.inl rfl⟩
  | some ad =>
    obtain ⟨i1, hi1, hi2, hi3, hi4⟩ := info_parts (show (Try.prog.info? 3).map (fun i => (i.zero, i.size, i.bytes)) = some (some (.int .i64 0), 1, 8) by kernel_rfl)
    go_enter Try.func31, Try.ntmps31
    go_wp2_with (first
      | (at_builtin; refine wpList_append_own_at _ rfl _ _ 23 rfl w.heap.size 3 i1 (.int .i64 0) 1 8 Try.underlying23 hi1 hi2 hi3 hi4 rfl (by decide) (.slice (some ⟨w.heap.size, 0, none⟩) 0 0) 0 [] rfl (World.ownsRow_made w #[] 0 (Nat.le_refl _) (Nat.zero_le _) (by simp)) ad l.length c (l.map encZ) rfl (by simp) (fun j u hj => reads_newsI (HR.out.over ((Below.refl w.heap.size w).alloc (Nat.le_refl _) (.cells #[] 3)) (Nat.le_refl _)) j u hj) (by intro u hu; obtain ⟨m, -, rfl⟩ := List.mem_map.1 hu; rfl) (by unfold maxLen; omega) (by omega) (by simp) ?_; intro v' w6 hown6 hg6 _ _
         have hb6 : Below w.heap.size w w6 := ((Below.refl w.heap.size w).alloc (Nat.le_refl _) (.cells #[] 3)).grown hg6 (by simp) (by intro k hk; simp [Value.ownBlock] at hk; omega)
         rw [Nat.zero_add, List.nil_append] at hown6
         have HW := Lib.hid (And.intro hown6 hb6); clear hown6 hg6 hb6)
      | go_in)
    go_ret
    obtain ⟨p, cap, e, hr, -⟩ := owns_readsL rfl HW.out.1
    exact ⟨HW.out.2, p, cap, by rw [e]; rfl, hr⟩
theorem nearV_len (n : Nat) (M : List Ed) (v : Int) : (nearV n M v).length ≤ M.length := by
  unfold nearV
  split
  · exact near_len M v
  · exact Nat.zero_le _
theorem sum_all {M : List Ed} (hn : NonNeg M) (hb : allW M ≤ 9223372036854775807) : sumS (wts M) = (allW M, true) := by
  have key : ∀ k, k ≤ M.length → sumS ((wts M).take k) = (allW (M.take k), true) := by
    intro k
    induction k with
    | zero => intro _; rfl
    | succ k ih =>
      intro hk
      have hi := ih (by omega)
      have hk' : k < M.length := by omega
      have h1 : allW (M.take (k + 1)) = allW (M.take k) + M[k].2.2 := by
        rw [take_snoc _ _ hk', allW_append]; simp [allW]
      have h2 := allW_pos (l := M.take k) (fun e he => hn e (List.mem_of_mem_take he))
      have h3 : allW M = allW (M.take (k + 1)) + allW (M.drop (k + 1)) := by rw [← allW_append, List.take_append_drop]
      have h4 := allW_pos (l := M.drop (k + 1)) (fun e he => hn e (List.mem_of_mem_drop he))
      have h5 := hn M[k] (List.getElem_mem hk')
      have hin : In (allW (M.take (k + 1))) := ⟨by omega, by omega⟩
      rw [sumS_take _ _ (by rw [wts_len]; exact hk'), hi, step_ok _ _ rfl, wts_at hk', ← h1]
      rw [cut_in hin, (fits_iff _).2 hin]
  have := key M.length (Nat.le_refl _)
  rwa [List.take_length, ← wts_len M, List.take_length] at this
end Go.Proofs.Ytbankocbncpepaa
