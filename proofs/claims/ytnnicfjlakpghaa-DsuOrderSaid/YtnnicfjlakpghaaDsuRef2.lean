/- The document's answers of layer 10: how many vertices a class has; whether two lists of lists are the same. -/
import Derived.Test.YtnnicfjlakpghaaDsuRef1
namespace Go.Proofs.Ytnnicfjlakpghaa
open Go.RowKit Go.ChangeShapes Go.Maps DsuPure
def sameC (n : Nat) (p : Nat → Nat) (v : Int) (k : Nat) : Nat := (List.range k).countP fun i : Nat => sameZ n p (i : Int) v
theorem sameC_succ (n : Nat) (p : Nat → Nat) (v : Int) (k : Nat) : sameC n p v (k + 1) = sameC n p v k + if sameZ n p (k : Int) v = true then 1 else 0 := by
  unfold sameC
  rw [List.range_succ, List.countP_append, List.countP_singleton]
theorem sameC_le (n : Nat) (p : Nat → Nat) (v : Int) (k : Nat) : sameC n p v k ≤ k := by
  have := List.countP_le_length (p := fun i : Nat => sameZ n p (i : Int) v) (l := List.range k)
  rwa [List.length_range] at this
theorem sameC_all (n : Nat) (p : Nat → Nat) (v : Int) : sameC n p v n = sizeZ n p v := by
  unfold sameC sizeZ cntZ
  refine List.countP_congr fun i hi => ?_
  have hi := List.mem_range.1 hi
  unfold sameZ ofZ
  rw [fit_of hi, Int.toNat_natCast, Bool.true_and]
  cases hv : fitB n v
  · simp
    try omega
  · simp
    try omega
theorem sizeRef_any (n : Nat) (hn : n ≤ 4096) (p : Nat → Nat) (a : Option Addr) (c : Nat) (v : Int) (w : World) (h : RefAt w a n p) :
    Calls Try.prog 23 #[.agg #[.slice a n c], .int .i64 v] w fun e w' => e = .returned (.int .i64 (sizeZ n p v : Int)) ∧ Below w.heap.size w w' := by
  have HS := Lib.hid (fun T => BoxAt.start w a n c p h T)
  clear h
  go_enter Try.func23, Try.ntmps23
  go_wp2_with fail
  go_loopw [5, 6] (fun s i wr => ∃ k : Nat, k ≤ n ∧ i = .int .i64 k ∧ s = .int .i64 (sameC n p v k : Int) ∧ Hid (BoxAt w w.heap.size a n c p wr)) (fun _ i _ => n - (intOf i).toNat)
  case atStart => exact ⟨0, Nat.zero_le _, rfl, rfl, Lib.hid (HS.out _)⟩
  case round =>
    obtain ⟨k, hk, rfl, rfl, HB⟩ := hrel
    have i0 : (0 : Int) ≤ (k : Int) := by omega
    have c0 := HB.out.2.2.1
    have hC := sameC_le n p v k
    by_cases hlt : k < n
    · have i1 : (k : Int) < (n : Int) := by omega
      have HN := Lib.hid (sameC_succ n p v k)
      generalize sameC n p v k = C at *
      cases hs : sameZ n p (k : Int) v
      · have HF := Lib.hid hs
        clear hs
        go_wp2_with (first | (go_at_call 9; refine (sameRef_any n p a c (k : Int) v _ HB.out.2.2.2).mono ?_; rintro e w1 ⟨rfl, hb1⟩; have HB1 := Lib.hid (HB.out.keep hb1); clear hb1 c0; rw [HF.out]))
        go_roundw
        case rel => exact ⟨k + 1, by omega, by go_num, by rw [HN.out, HF.out]; go_num, HB1⟩
        case measure => (simp [intOf] <;> omega)
      · have HF := Lib.hid hs
        clear hs
        go_wp2_with (first | (go_at_call 9; refine (sameRef_any n p a c (k : Int) v _ HB.out.2.2.2).mono ?_; rintro e w1 ⟨rfl, hb1⟩; have HB1 := Lib.hid (HB.out.keep hb1); clear hb1 c0; rw [HF.out]))
        go_roundw
        case rel => exact ⟨k + 1, by omega, by go_num, by rw [HN.out, HF.out, if_pos rfl]; go_num, HB1⟩
        case measure => (simp [intOf] <;> omega)
    · have hge : ¬ (k : Int) < (n : Int) := by omega
      have HE : Hid (sameC n p v k = sizeZ n p v) := Lib.hid (by rw [show k = n by omega]; exact sameC_all n p v)
      go_wp2
      go_ret
      exact ⟨ret_i (by rw [HE.out]), HB.out.1⟩
/-- Ints of any two lists. -/
def EqRel (l r : List Int) (w0 : World) (k : Nat) (w : World) : Prop := k ≤ l.length ∧ (∃ m, w = w0.drewN m) ∧ l.take k = r.take k
theorem ints_any (a a' : Option Addr) (c1 c2 : Nat) (l r : List Int) (w : World) (h1 : ReadsL encZ w.heap.size w a l) (h2 : ReadsL encZ w.heap.size w a' r) (hl1 : l.length ≤ 1000000) :
    Calls Try.prog 24 #[.slice a l.length c1, .slice a' r.length c2] w fun e w' => e = .returned (.bool (decide (l = r))) ∧ ∃ m, w' = w.drewN m := by
  have H1 := Lib.hid h1
  have H2 := Lib.hid h2
  clear h1 h2
  by_cases hn : l.length = r.length
  · have t : ((l.length : Int) != (r.length : Int)) = false := by simp [hn]
    have HN := Lib.hid hn
    go_enter Try.func24, Try.ntmps24
    clear hn
    go_wp2
    go_loopw [5] (fun i wr => ∃ k : Nat, i = .int .i64 k ∧ Hid (EqRel l r w k wr)) (fun i _ => l.length - (intOf i).toNat)
    case atStart => exact ⟨0, rfl, Lib.hid ⟨Nat.zero_le _, ⟨0, rfl⟩, rfl⟩⟩
    case round =>
      obtain ⟨k, rfl, HK⟩ := hrel
      have hk := HK.out.1
      obtain ⟨m, rfl⟩ := HK.out.2.1
      have i0 : (0 : Int) ≤ (k : Int) := by omega
      by_cases hlt : k < l.length
      · have hlt2 : k < r.length := by have := HN.out; omega
        have i1 : (k : Int) < (l.length : Int) := by omega
        have i2 : (k : Int) < (r.length : Int) := by omega
        obtain ⟨b, off, rfl, hbN, d1⟩ := H1.out.at hlt
        obtain ⟨b', off', rfl, hbN', d2⟩ := H2.out.at hlt2
        unfold encZ at d1 d2
        by_cases he : l[k] = r[k]
        · have hN : Hid (l.take (k + 1) = r.take (k + 1)) := Lib.hid (by rw [take_snoc l k hlt, take_snoc r k hlt2, HK.out.2.2, he])
          rw [he] at d1
          clear he
          generalize r[k] = x at *
          go_wp2
          go_quiet (fail)
          go_wp2
          go_roundw
          case rel => exact ⟨k + 1, by go_num, Lib.hid ⟨by omega, ⟨_, rfl⟩, hN.out⟩⟩
          case measure => (simp [intOf] <;> omega)
        · have hN : Hid (decide (l = r) = false) := Lib.hid (by refine decide_eq_false (fun h => he ?_); subst h; rfl)
          have t2 : (l[k] != r[k]) = true := by simpa using he
          clear he
          generalize l[k] = x at *
          generalize r[k] = y at *
          go_wp2
          go_quiet (fail)
          go_wp2
          go_ret
          exact ⟨bool_ret hN.out.symm, _, World.drewN_drewN _ _ _⟩
      · have hke : k = l.length := by omega
        have hfin : l = r := by
          have := HK.out.2.2
          rw [hke, List.take_length, HN.out, List.take_length] at this
          exact this
        have HF := Lib.hid hfin
        clear hfin
        go_wp2
        go_ret
        exact ⟨bool_ret (by rw [decide_eq_true HF.out]), _, rfl⟩
  · have t : ((l.length : Int) != (r.length : Int)) = true := by
      have : (l.length : Int) ≠ (r.length : Int) := fun e => hn (by omega)
      simpa using this
    have HN : Hid (decide (l = r) = false) := Lib.hid (decide_eq_false (fun e => hn (by rw [e])))
    clear hn
    go_enter Try.func24, Try.ntmps24
    go_wp2
    go_ret
    exact ⟨bool_ret HN.out.symm, 0, rfl⟩
theorem RowsAt.at {M : Nat} {w : World} {a : Option Addr} {L : List (List Int)} (h : RowsAt M w a L) {k : Nat} (hk : k < L.length) :
    ∃ b off q c, a = some ⟨b, off, none⟩ ∧ b < w.heap.size ∧ w.cell? ⟨b, off + k, none⟩ = some (.slice q L[k].length c) ∧ ReadsL encZ w.heap.size w q L[k] := by
  rcases h with h | ⟨b, off, ha, -, hN, hc⟩
  · subst h; simp at hk
  · obtain ⟨q, c, h1, h2, -⟩ := hc k L[k] (List.getElem?_eq_getElem hk)
    exact ⟨b, off, q, c, ha, hN, h1, h2⟩
/-- Lists that are the same are told so. -/
theorem lists_true (M M' : Nat) (a a' : Option Addr) (c1 c2 : Nat) (L : List (List Int)) (w : World) (h1 : RowsAt M w a L) (h2 : RowsAt M' w a' L) (hl1 : L.length ≤ 1000000) (hl2 : ∀ l ∈ L, l.length ≤ 1000000) :
    Calls Try.prog 14 #[.slice a L.length c1, .slice a' L.length c2] w fun e w' => e = .returned (.bool true) ∧ ∃ m, w' = w.drewN m := by
  have H1 := Lib.hid h1
  have H2 := Lib.hid h2
  have H3 := Lib.hid hl2
  clear h1 h2 hl2
  have t : ((L.length : Int) != (L.length : Int)) = false := bne_self_eq_false _
  go_enter Try.func14, Try.ntmps14
  go_wp2
  go_loopw [5] (fun i wr => ∃ k m : Nat, i = .int .i64 k ∧ k ≤ L.length ∧ wr = w.drewN m) (fun i _ => L.length - (intOf i).toNat)
  case atStart => exact ⟨0, 0, rfl, Nat.zero_le _, rfl⟩
  case round =>
    obtain ⟨k, m, rfl, hk, rfl⟩ := hrel
    have i0 : (0 : Int) ≤ (k : Int) := by omega
    by_cases hlt : k < L.length
    · have i1 : (k : Int) < (L.length : Int) := by omega
      obtain ⟨b, off, q, c, rfl, hbN, d1, hr1⟩ := H1.out.at hlt
      obtain ⟨b', off', q', c', rfl, hbN', d2, hr2⟩ := H2.out.at hlt
      have hle := H3.out _ (List.getElem_mem hlt)
      have HD1 : Hid (∀ j, ReadsL encZ (w.drewN j).heap.size (w.drewN j) q L[k]) := Lib.hid fun j => ReadsL.over hr1 (below_drewN (Below.refl _ _) j) (Nat.le_refl _)
      have HD2 : Hid (∀ j, ReadsL encZ (w.drewN j).heap.size (w.drewN j) q' L[k]) := Lib.hid fun j => ReadsL.over hr2 (below_drewN (Below.refl _ _) j) (Nat.le_refl _)
      clear hr1 hr2
      generalize L[k] = l at *
      go_wp2_with fail
      go_region_with (go_at_call 24; refine (ints_any q q' c c' l l _ (HD1.out _) (HD2.out _) hle).mono ?_; rintro e w1 ⟨rfl, m1, rfl⟩; rw [decide_eq_true (rfl : l = l)])
      all_goals go_wp2
      all_goals go_roundw
      all_goals first
        | exact ⟨k + 1, _, by go_num, by omega, rfl⟩
        | (simp [intOf] <;> omega)
    · have hge : ¬ (k : Int) < (L.length : Int) := by omega
      go_wp2
      go_ret
      exact ⟨rfl, _, rfl⟩
end Go.Proofs.Ytnnicfjlakpghaa
