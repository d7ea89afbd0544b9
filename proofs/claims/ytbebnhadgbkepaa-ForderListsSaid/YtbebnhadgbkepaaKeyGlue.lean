/- What holds at the head of the loop of the library's sort of keys, and how its parts come together. -/
import Derived.Test.YtbebnhadgbkepaaKeyPartRel
namespace Go.Proofs.Ytbebnhadgbkepaa
open Go.RowKit ForderPure
open Go.Sort hiding Below
theorem ltB_true {x y : Nat} : ltB x y = true ↔ x < y := by unfold ltB; simp
theorem ltB_false {x y : Nat} : ltB x y = false ↔ y ≤ x := by unfold ltB; simp
theorem sorted_two {a m b : Nat} {R : Array Nat} (h1 : SortedIn ltB a m R) (h2 : SortedIn ltB (m + 1) b R) (h3 : ∀ t, a ≤ t → t < m → ltB R[t]! R[m]! = true) (h4 : ∀ t, m < t → t < b → ltB R[t]! R[m]! = false) : SortedIn ltB a b R := by
  intro i j hi hij hj
  rw [ltB_false]
  by_cases hjm : j < m
  · exact ltB_false.1 (h1 i j hi hij hjm)
  · by_cases hjm' : j = m
    · subst hjm'
      exact Nat.le_of_lt (ltB_true.1 (h3 i hi hij))
    · have hr := ltB_false.1 (h4 j (by omega) hj)
      by_cases him : i < m
      · have hl := ltB_true.1 (h3 i hi him)
        omega
      · by_cases him' : i = m
        · subst him'; exact hr
        · exact ltB_false.1 (h2 i j (by omega) hij hj)
/-- From a state of the loop: what is sorted between its ends is sorted between the first ones. -/
def Left (a0 b0 : Nat) (d0 : Array Nat) (a b : Nat) (dk : Array Nat) : Prop :=
  dk.size = d0.size ∧ Sort.Below ltB a b dk ∧ ∀ R, PermIn a b dk R → SortedIn ltB a b R → PermIn a0 b0 d0 R ∧ SortedIn ltB a0 b0 R
theorem Left.start {a b : Nat} {d : Array Nat} (h : Sort.Below ltB a b d) : Left a b d a b d := ⟨rfl, h, fun _ h1 h2 => ⟨h1, h2⟩⟩
theorem Left.perm {a0 b0 a b : Nat} {d0 dk d1 : Array Nat} (h : Left a0 b0 d0 a b dk) (hb : b ≤ d0.size) (hp : PermIn a b dk d1) : Left a0 b0 d0 a b d1 :=
  ⟨hp.1.trans h.1, h.2.1.perm (by rw [h.1]; exact hb) hp, fun R h1 h2 => h.2.2 R (permIn_trans _ _ _ _ _ hp h1) h2⟩
theorem Left.eq {a0 b0 a b m P : Nat} {d0 dk d4 : Array Nat} (h : Left a0 b0 d0 a b dk) (hb : b ≤ d0.size) (ha : 0 < a) (hP : ltB dk[a - 1]! P = false) (ham : a < m) (hmb : m ≤ b) (hp : PermIn a b dk d4)
    (h1 : ∀ t, a ≤ t → t < m → ltB P d4[t]! = false) (h2 : ∀ t, m ≤ t → t < b → ltB P d4[t]! = true) : Left a0 b0 d0 m b d4 := by
  obtain ⟨hz, hB, hc⟩ := h
  have hz4 : d4.size = d0.size := hp.1.trans hz
  have hge : ∀ t, a ≤ t → t < b → P ≤ d4[t]! := by
    refine permIn_all dk d4 a b (fun x => P ≤ x) (by omega) hp fun i hi hi' => ?_
    rcases hB with h0 | hB
    · omega
    · have := ltB_false.1 (hB i hi hi')
      have := ltB_false.1 hP
      omega
  refine ⟨hz4, Or.inr fun i hi hi' => ?_, fun R hR hS => hc R (permIn_trans _ _ _ a b hp (permIn_mono d4 R m b a b (by omega) (Nat.le_refl _) (by omega) hR)) fun i j hi hij hj => ?_⟩
  · have := ltB_true.1 (h2 i hi hi')
    have := ltB_false.1 (h1 (m - 1) (by omega) (by omega))
    rw [ltB_false]; omega
  · have hgt : ∀ t, m ≤ t → t < b → P < R[t]! := permIn_all d4 R m b (fun x => P < x) (by omega) hR fun i hi hi' => ltB_true.1 (h2 i hi hi')
    have hlo : ∀ t, a ≤ t → t < m → R[t]! = P := fun t ht htm => by
      rw [hR.2.1 t (Or.inl htm)]
      have := hge t ht (by omega)
      have := ltB_false.1 (h1 t ht htm)
      omega
    by_cases him : i < m
    · rw [ltB_false, hlo i hi him]
      by_cases hjm : j < m
      · rw [hlo j (by omega) hjm]; omega
      · exact Nat.le_of_lt (hgt j (by omega) hj)
    · exact hS i j (by omega) hij hj
theorem Left.first {a0 b0 a b m : Nat} {d0 dk d4 L : Array Nat} (h : Left a0 b0 d0 a b dk) (hb : b ≤ d0.size) (ham : a ≤ m) (hmb : m < b) (hp : PermIn a b dk d4)
    (h1 : ∀ t, a ≤ t → t < m → ltB d4[t]! d4[m]! = true) (h2 : ∀ t, m < t → t < b → ltB d4[t]! d4[m]! = false) (hL : PermIn a m d4 L) (hS : SortedIn ltB a m L) : Left a0 b0 d0 (m + 1) b L := by
  obtain ⟨hz, hB, hc⟩ := h
  have hz4 : d4.size = d0.size := hp.1.trans hz
  have hzL : L.size = d0.size := hL.1.trans hz4
  have e1 : ∀ t, m ≤ t → L[t]! = d4[t]! := fun t ht => hL.2.1 t (Or.inr ht)
  refine ⟨hzL, Or.inr fun i hi hi' => ?_, fun R hR hSR => hc R (permIn_trans _ _ _ a b hp (permIn_trans _ _ _ a b (permIn_mono d4 L a m a b (Nat.le_refl _) (by omega) (by omega) hL) (permIn_mono L R (m + 1) b a b (by omega) (Nat.le_refl _) (by omega) hR))) ?_⟩
  · rw [Nat.add_sub_cancel, e1 i (by omega), e1 m (Nat.le_refl _)]
    exact h2 i (by omega) hi'
  · have e2 : ∀ t, t ≤ m → R[t]! = L[t]! := fun t ht => hR.2.1 t (Or.inl (by omega))
    have hm : R[m]! = d4[m]! := (e2 m (Nat.le_refl _)).trans (e1 m (Nat.le_refl _))
    refine sorted_two (fun i j hi hij hj => ?_) hSR (fun t ht htm => ?_) (fun t ht htb => ?_)
    · rw [e2 i (by omega), e2 j (by omega)]; exact hS i j hi hij hj
    · rw [hm, e2 t (by omega)]
      exact permIn_all d4 L a m (fun x => ltB x d4[m]! = true) (by omega) hL h1 t ht htm
    · rw [hm]
      exact permIn_all L R (m + 1) b (fun x => ltB x d4[m]! = false) (by omega) hR (fun i hi hi' => by rw [e1 i (by omega)]; exact h2 i (by omega) hi') t (by omega) htb
theorem Left.second {a0 b0 a b m : Nat} {d0 dk d4 L : Array Nat} (h : Left a0 b0 d0 a b dk) (hb : b ≤ d0.size) (ham : a ≤ m) (hmb : m < b) (hp : PermIn a b dk d4)
    (h1 : ∀ t, a ≤ t → t < m → ltB d4[t]! d4[m]! = true) (h2 : ∀ t, m < t → t < b → ltB d4[t]! d4[m]! = false) (hL : PermIn (m + 1) b d4 L) (hS : SortedIn ltB (m + 1) b L) : Left a0 b0 d0 a m L := by
  obtain ⟨hz, hB, hc⟩ := h
  have hz4 : d4.size = d0.size := hp.1.trans hz
  have hzL : L.size = d0.size := hL.1.trans hz4
  have e1 : ∀ t, t ≤ m → L[t]! = d4[t]! := fun t ht => hL.2.1 t (Or.inl (by omega))
  have hB4 : Sort.Below ltB a b d4 := hB.perm (by omega) hp
  refine ⟨hzL, ?_, fun R hR hSR => hc R (permIn_trans _ _ _ a b hp (permIn_trans _ _ _ a b (permIn_mono d4 L (m + 1) b a b (by omega) (Nat.le_refl _) (by omega) hL) (permIn_mono L R a m a b (Nat.le_refl _) (by omega) (by omega) hR))) ?_⟩
  · rcases hB4 with h0 | hB4
    · exact Or.inl h0
    · refine Or.inr fun i hi hi' => ?_
      rw [e1 i (by omega), e1 (a - 1) (by omega)]
      exact hB4 i hi (by omega)
  · have e2 : ∀ t, m ≤ t → R[t]! = L[t]! := fun t ht => hR.2.1 t (Or.inr ht)
    have hm : R[m]! = d4[m]! := (e2 m (Nat.le_refl _)).trans (e1 m (Nat.le_refl _))
    refine sorted_two hSR (fun i j hi hij hj => ?_) (fun t ht htm => ?_) (fun t ht htb => ?_)
    · rw [e2 i (by omega), e2 j (by omega)]; exact hS i j hi hij hj
    · rw [hm]
      exact permIn_all L R a m (fun x => ltB x d4[m]! = true) (by omega) hR (fun i hi hi' => by rw [e1 i (by omega)]; exact h1 i hi hi') t ht htm
    · rw [hm, e2 t (by omega)]
      exact permIn_all d4 L (m + 1) b (fun x => ltB x d4[m]! = false) (by omega) hL (fun i hi hi' => h2 i (by omega) hi') t (by omega) htb
theorem Left.below1 {a0 b0 a b m : Nat} {d0 dk d4 : Array Nat} (h : Left a0 b0 d0 a b dk) (hb : b ≤ d0.size) (hmb : m < b) (hp : PermIn a b dk d4) : Sort.Below ltB a m d4 :=
  (h.2.1.perm (by rw [h.1]; exact hb) hp).mono (by omega)
/-- The loop's state: the row is dk, and what is left is to sort it from a to b. -/
def LoopRel (w0 : World) (blk off a0 b0 : Nat) (d0 : Array Nat) (a b : Nat) (dk : Array Nat) (w : World) : Prop := RowAt w0 blk off dk w ∧ Left a0 b0 d0 a b dk
theorem LoopRel.step {w0 w w' : World} {blk off a0 b0 a b : Nat} {d0 dk d1 : Array Nat} (h : LoopRel w0 blk off a0 b0 d0 a b dk w) (hbk : blk < w0.heap.size) (hb : b ≤ d0.size) (hr : RowAt w blk off d1 w') (hp : PermIn a b dk d1) :
    LoopRel w0 blk off a0 b0 d0 a b d1 w' := ⟨h.1.trans hr hbk hp.1, h.2.perm hb hp⟩
theorem LoopRel.holds {w0 w : World} {blk off a0 b0 a b : Nat} {d0 dk : Array Nat} (h : LoopRel w0 blk off a0 b0 d0 a b dk w) (hH : Holds encU w0 blk off d0) (hbk : blk < w0.heap.size) : Holds encU w blk off dk := h.1.holds hH hbk h.2.1
theorem LoopRel.size {w0 w : World} {blk off a0 b0 a b : Nat} {d0 dk : Array Nat} (h : LoopRel w0 blk off a0 b0 d0 a b dk w) (hbk : blk < w0.heap.size) : blk < w.heap.size := Nat.lt_of_lt_of_le hbk h.1.size
theorem LoopRel.sorted {w0 w w' : World} {blk off a0 b0 a b : Nat} {d0 dk d1 : Array Nat} (h : LoopRel w0 blk off a0 b0 d0 a b dk w) (hbk : blk < w0.heap.size) (hr : RowAt w blk off d1 w') (hp : PermIn a b dk d1) (hs : SortedIn ltB a b d1) :
    Turned w0 blk off a0 b0 d0 (SortedIn ltB a0 b0) w' :=
  ⟨d1, h.1.trans hr hbk hp.1, (h.2.2.2 d1 hp hs).1, (h.2.2.2 d1 hp hs).2⟩
end Go.Proofs.Ytbebnhadgbkepaa
