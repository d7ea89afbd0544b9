/- Contracts of the document's own answers of layer 7 on one text: whether it is a word, whether it is plain, the place of a key, whether two lists are alike. -/
import Derived.Test.YthgalcfnaaboeaaWordCode
import Derived.Deep.QuietTactic
import Derived.BigQuiet
namespace Go.Proofs.Ythgalcfnaaboeaa.Wd
open Go.RowKit Go.ChangeShapes WordPure Str
/-- Over so much of a text there is no end of a line and no blank. -/
def ClearTo (s : ByteArray) (k : Nat) : Prop := k ≤ s.size ∧ NoC 10 (s.data.toList.take k) ∧ NoC 32 (s.data.toList.take k)
theorem clear_next {s : ByteArray} {k : Nat} (h : ClearTo s k) (hk : k < s.size) (h1 : s[k] ≠ 10) (h2 : s[k] ≠ 32) : ClearTo s (k + 1) := by
  have e : s.data.toList.take (k + 1) = s.data.toList.take k ++ [s[k]] := take_succ' _ k (by rw [← Lib.size_eq]; exact hk)
  refine ⟨hk, fun c hc => ?_, fun c hc => ?_⟩
  all_goals
    rw [e, List.mem_append] at hc
    rcases hc with hc | hc
  · exact h.2.1 c hc
  · rw [List.mem_singleton.1 hc]; exact h1
  · exact h.2.2 c hc
  · rw [List.mem_singleton.1 hc]; exact h2
theorem clear_all {s : ByteArray} {k : Nat} (h : ClearTo s k) (hk : ¬ k < s.size) : wordB s.data.toList = decide (0 < s.size) := by
  obtain ⟨-, h1, h2⟩ := h
  rw [List.take_of_length_le (by rw [← Lib.size_eq]; omega)] at h1 h2
  have hs := Lib.size_eq s
  by_cases h0 : 0 < s.size
  · rw [decide_eq_true h0]
    exact (word_iff _).2 ⟨fun e => by rw [e, List.length_nil] at hs; omega, h1, h2⟩
  · rw [decide_eq_false h0]
    exact word_false (Or.inl (List.length_eq_zero_iff.1 (by omega)))
set_option maxHeartbeats 1000000 in
theorem refWord_any (s : ByteArray) (hs : s.size ≤ 100000000) (w : World) :
    Calls Try.prog 25 #[.string s] w fun e w' => e = .returned (.bool (wordB s.data.toList)) ∧ Below w.heap.size w w' := by
  have H0 : Hid (ClearTo s 0) := Lib.hid ⟨Nat.zero_le _, fun c hc => by simp at hc, fun c hc => by simp at hc⟩
  go_enter Try.func25, Try.ntmps25
  go_wp2
  go_loopw [3] (fun i wr => ∃ k : Nat, i = .int .i64 k ∧ wr = w ∧ Hid (ClearTo s k)) (fun i _ => s.size - (intOf i).toNat)
  case atStart => exact ⟨0, rfl, rfl, H0⟩
  case round =>
    obtain ⟨k, rfl, rfl, HD⟩ := hrel
    have hkl := HD.out.1
    by_cases hk : k < s.size
    · by_cases h1 : s[k] = 10
      · have t1 : (((s[k].toNat : Nat) : Int) == 10) = true := byte_yes (by decide) h1
        have HX : Hid (wordB s.data.toList = false) := Lib.hid (word_false (Or.inr (Or.inl fun hn => hn _ (mem_at s k hk) h1)))
        clear h1
        go_wp2
        go_ret
        exact ⟨bool_ret HX.out.symm, Below.refl _ _⟩
      · have t1 : (((s[k].toNat : Nat) : Int) == 10) = false := byte_no (by decide) h1
        by_cases h2 : s[k] = 32
        · have t2 : (((s[k].toNat : Nat) : Int) == 32) = true := byte_yes (by decide) h2
          have HX : Hid (wordB s.data.toList = false) := Lib.hid (word_false (Or.inr (Or.inr fun hn => hn _ (mem_at s k hk) h2)))
          clear h1 h2
          go_wp2
          go_ret
          exact ⟨bool_ret HX.out.symm, Below.refl _ _⟩
        · have t2 : (((s[k].toNat : Nat) : Int) == 32) = false := byte_no (by decide) h2
          have HN := Lib.hid (clear_next HD.out hk h1 h2)
          clear h1 h2
          go_wp2
          go_roundw
          case rel => exact ⟨k + 1, by go_num, by trivial, HN⟩
          case measure => simp [intOf]; omega
    · have HA := Lib.hid (clear_all HD.out hk)
      go_wp2
      go_ret
      refine ⟨bool_ret ?_, Below.refl _ _⟩
      rw [HA.out]
set_option maxHeartbeats 1000000 in
theorem refPlain_any (s : ByteArray) (hs : s.size ≤ 100000000) (w : World) :
    Calls Try.prog 13 #[.string s] w fun e w' => e = .returned (.bool (seenB s.data.toList)) ∧ Below w.heap.size w w' := by
  have H0 : Hid (SeenTo s 0) := Lib.hid ⟨Nat.zero_le _, fun c hc => by simp at hc⟩
  go_enter Try.func13, Try.ntmps13
  go_wp2
  go_loopw [3] (fun i wr => ∃ k : Nat, i = .int .i64 k ∧ wr = w ∧ Hid (SeenTo s k)) (fun i _ => s.size - (intOf i).toNat)
  case atStart => exact ⟨0, rfl, rfl, H0⟩
  case round =>
    obtain ⟨k, rfl, rfl, HD⟩ := hrel
    have hkl := HD.out.1
    by_cases hk : k < s.size
    · cases hd : vis s[k] with
      | true =>
        obtain ⟨h1, h2⟩ := seen_yes hd
        have HN := Lib.hid (seenTo_next HD.out hk hd)
        have g1 : ¬ ((s[k].toNat : Nat) : Int) < 33 := by omega
        have g2 : ¬ (126 : Int) < ((s[k].toNat : Nat) : Int) := by omega
        clear hd h1 h2
        go_wp2
        go_roundw
        case rel => exact ⟨k + 1, by go_num, by trivial, HN⟩
        case measure => simp [intOf]; omega
      | false =>
        have HX := Lib.hid (seen_out hk hd)
        rcases seen_no hd with h1 | ⟨h1, h2⟩
        · have g1 : ((s[k].toNat : Nat) : Int) < 33 := by omega
          clear hd h1
          go_wp2
          go_ret
          exact ⟨bool_ret HX.out.symm, Below.refl _ _⟩
        · have g1 : ¬ ((s[k].toNat : Nat) : Int) < 33 := by omega
          have g2 : (126 : Int) < ((s[k].toNat : Nat) : Int) := by omega
          clear hd h1 h2
          go_wp2
          go_ret
          exact ⟨bool_ret HX.out.symm, Below.refl _ _⟩
    · have HA := Lib.hid (seenTo_all HD.out hk)
      go_wp2
      go_ret
      exact ⟨bool_ret HA.out.symm, Below.refl _ _⟩
/-- So far the key was not met. -/
def KeyTo (l : List (List UInt8)) (s : ByteArray) (k : Nat) : Prop := k ≤ l.length ∧ ∀ j (h : j < l.length), j < k → (⟨l[j].toArray⟩ : ByteArray) ≠ s
theorem key_hit {l : List (List UInt8)} {s : ByteArray} {k : Nat} (h : KeyTo l s k) (hk : k < l.length) (he : (⟨l[k].toArray⟩ : ByteArray) = s) : keyI l s.data.toList = k := by
  unfold keyI
  rw [mk_self]
  have := Lib.idxOfS_hit (l.map fun p => (⟨p.toArray⟩ : ByteArray)) l.length k s hk (by simp) (by rw [List.getD_eq_getElem?_getD, List.getElem?_map, List.getElem?_eq_getElem hk]; exact he) (fun j hj => by
    rw [List.getD_eq_getElem?_getD, List.getElem?_map, List.getElem?_eq_getElem (show j < l.length by omega)]; exact h.2 j (by omega) hj)
  rwa [List.take_of_length_le (by simp)] at this
theorem key_miss {l : List (List UInt8)} {s : ByteArray} {k : Nat} (h : KeyTo l s k) (hk : ¬ k < l.length) : keyI l s.data.toList = -1 := by
  unfold keyI
  rw [mk_self]
  have := Lib.idxOfS_miss (l.map fun p => (⟨p.toArray⟩ : ByteArray)) l.length s (fun j hj => by
    rw [List.getD_eq_getElem?_getD, List.getElem?_map, List.getElem?_eq_getElem hj]; exact h.2 j hj (by omega))
  rwa [List.take_of_length_le (by simp)] at this
set_option maxHeartbeats 1000000 in
theorem refKey_any (s : ByteArray) (a : Option Addr) (cap : Nat) (l : List (List UInt8)) (w : World) (hl : ReadsL encS w.heap.size w a l) (hlen : l.length ≤ 100000000) :
    Calls Try.prog 15 #[.string s, .slice a l.length cap] w fun e w' => e = .returned (.int .i64 (keyI l s.data.toList)) ∧ Below w.heap.size w w' := by
  have HL := Lib.hid hl
  have H0 : Hid (KeyTo l s 0) := Lib.hid ⟨Nat.zero_le _, fun j _ h => by omega⟩
  clear hl
  go_enter Try.func15, Try.ntmps15
  go_wp2
  go_loopw [5] (fun i wr => ∃ k : Nat, i = .int .i64 k ∧ wr = w ∧ Hid (KeyTo l s k)) (fun i _ => l.length - (intOf i).toNat)
  case atStart => exact ⟨0, rfl, rfl, H0⟩
  case round =>
    obtain ⟨k, rfl, rfl, HD⟩ := hrel
    have hkl := HD.out.1
    by_cases hk : k < l.length
    · obtain ⟨b, off, rfl, hbN, hck⟩ := HL.out.at hk
      unfold encS at hck
      by_cases he : (⟨l[k].toArray⟩ : ByteArray) = s
      · have HX := Lib.hid (key_hit HD.out hk he)
        have t := (Lib.bytes_beq_iff _ _).2 he
        clear he
        generalize (⟨l[k].toArray⟩ : ByteArray) = x at *
        go_wp2
        go_ret
        exact ⟨ret_i HX.out.symm, Below.refl _ _⟩
      · have HN : Hid (KeyTo l s (k + 1)) := Lib.hid ⟨hk, fun j h hj => by
          rcases Nat.lt_succ_iff_lt_or_eq.1 hj with h2 | h2
          · exact HD.out.2 j h h2
          · subst h2; exact he⟩
        have t := (Lib.bytes_beq_false_iff _ _).2 he
        clear he
        generalize (⟨l[k].toArray⟩ : ByteArray) = x at *
        go_wp2
        go_roundw
        case rel => exact ⟨k + 1, by go_num, by trivial, HN⟩
        case measure => simp [intOf]; omega
    · have HX := Lib.hid (key_miss HD.out hk)
      go_wp2
      go_ret
      exact ⟨ret_i HX.out.symm, Below.refl _ _⟩
set_option maxHeartbeats 1000000 in
/-- Of equal lists Same tells that they are. -/
theorem sameS_any (p q : Option Addr) (c d : Nat) (l : List (List UInt8)) (w : World) (h1 : ReadsL encS w.heap.size w p l) (h2 : ReadsL encS w.heap.size w q l) (hlen : l.length ≤ 100000000) :
    Calls Try.prog 20 #[.slice p l.length c, .slice q l.length d] w fun e w' => e = .returned (.bool true) ∧ Below w.heap.size w w' := by
  have H1 := Lib.hid h1
  have H2 := Lib.hid h2
  have HS := Lib.hid (Below.refl w.heap.size w)
  clear h1 h2
  go_enter Try.func20, Try.ntmps20
  go_wp2
  go_loopw [5] (fun i wr => ∃ k : Nat, i = .int .i64 k ∧ k ≤ l.length ∧ Hid (Below w.heap.size w wr)) (fun i _ => l.length - (intOf i).toNat)
  case atStart => exact ⟨0, rfl, Nat.zero_le _, HS⟩
  case round =>
    obtain ⟨k, rfl, hk, HB⟩ := hrel
    by_cases hlt : k < l.length
    · obtain ⟨b0, o0, rfl, -, g0⟩ := (H1.out.on HB.out).at hlt
      obtain ⟨b1, o1, rfl, -, g1⟩ := (H2.out.on HB.out).at hlt
      unfold encS at g0 g1
      generalize (⟨l[k].toArray⟩ : ByteArray) = x at *
      go_wp2
      go_quiet (fail)
      go_wp2
      go_roundw
      case rel => exact ⟨k + 1, by go_num, hlt, below_drewN HB.out _⟩
      case measure => (simp [intOf] <;> omega)
    · have hke : k = l.length := by omega
      subst hke
      go_wp2
      go_ret
      exact ⟨rfl, HB.out⟩
set_option maxHeartbeats 1000000 in
/-- The statements' own question, of what is alike. -/
theorem same_any (p q : Option Addr) (c d : Nat) (l : List (List UInt8)) (b : Bool) (w : World) (h1 : ReadsL encS w.heap.size w p l) (h2 : ReadsL encS w.heap.size w q l) (hlen : l.length ≤ 100000000) :
    Calls Try.prog 9 #[.slice p l.length c, .bool b, .agg #[.slice q l.length d, .bool b]] w fun e w' => e = .returned (.bool true) ∧ Below w.heap.size w w' := by
  have hb := (Below.refl w.heap.size w).alloc (Nat.le_refl _) (.cells #[.slice q l.length d, .bool b] 28)
  have HC := Lib.hid (sameS_any p q c d l _ (h1.over hb (Nat.le_refl _)) (h2.over hb (Nat.le_refl _)) hlen)
  have HB := Lib.hid hb
  have HBL : Hid (b == b) := Lib.hid (beq_self_eq_true b)
  clear hb h1 h2
  go_enter Try.func9, Try.ntmps9
  go_wp2_with fail
  refine HC.out.mono ?_
  rintro e w1 ⟨rfl, hb1⟩
  have HB1 := Lib.hid (HB.out.trans (hb1.mono HB.out.size))
  clear hb1 HC
  go_wp2
  go_ret
  exact ⟨rfl, HB1.out⟩
end Go.Proofs.Ythgalcfnaaboeaa.Wd
