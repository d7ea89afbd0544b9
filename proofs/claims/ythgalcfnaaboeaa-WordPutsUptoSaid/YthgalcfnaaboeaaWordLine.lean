/- Contracts: the line of words, as the program puts it together, and as the document does. -/
import Derived.Test.YthgalcfnaaboeaaWordRef1
import Derived.Test.YthgalcfnaaboeaaCells
import Derived.Test.YthgalcfnaaboeaaShJoin
namespace Go.Proofs.Ythgalcfnaaboeaa.Wd
open Go.RowKit Go.ChangeShapes WordPure Str
/-- So many of them are words. -/
def WordsTo (l : List (List UInt8)) (k : Nat) : Prop := k ≤ l.length ∧ ∀ j (h : j < l.length), j < k → wordB l[j] = true
theorem wordsTo_next {l : List (List UInt8)} {k : Nat} (h : WordsTo l k) (hk : k < l.length) (hw : wordB l[k] = true) : WordsTo l (k + 1) :=
  ⟨hk, fun j hj hjk => by
    rcases Nat.lt_succ_iff_lt_or_eq.1 hjk with h2 | h2
    · exact h.2 j hj h2
    · subst h2; exact hw⟩
theorem wordsTo_all {l : List (List UInt8)} {k : Nat} (h : WordsTo l k) (hk : ¬ k < l.length) : lineB l = true ∧ lineT l = joinC 32 l :=
  line_good fun p hp => by
    obtain ⟨j, hj, rfl⟩ := List.getElem_of_mem hp
    exact h.2 j hj (by omega)
/-- How long what is put together may be. -/
def Short (n : Nat) (l : List (List UInt8)) : Prop := Lib.lens l + l.length ≤ n
theorem Short.one {n : Nat} {l : List (List UInt8)} (h : Short n l) {k : Nat} (hk : k < l.length) : l[k].length ≤ n := by
  have h1 := Lib.lens_take_succ l k l[k] (List.getElem?_eq_getElem hk)
  have h2 := Lib.lens_take_le l (k + 1)
  unfold Short at h
  omega
theorem Short.join {n : Nat} {l : List (List UInt8)} (h : Short n l) : (joinC 32 l).length ≤ n := Nat.le_trans (join_len 32 l) h
theorem Short.take {n : Nat} {l : List (List UInt8)} (h : Short n l) (k : Nat) : Short n (l.take k) := by
  have h2 := Lib.lens_take_le l k
  unfold Short at h ⊢
  rw [List.length_take]; omega
/-- strings.Join at one blank. -/
theorem join_any (a : Option Addr) (cap : Nat) (l : List (List UInt8)) (w : World) (hl : ReadsL encS w.heap.size w a l) (hc : l.length ≤ cap) (hs : Short 100000000 l) :
    Calls Try.prog 27 #[.slice a l.length cap, .string ⟨#[32]⟩] w fun e w' => e = .returned (.string ⟨(joinC 32 l).toArray⟩) ∧ Below w.heap.size w w' := by
  rcases hl with h | ⟨b, off, rfl, hb, hcell⟩
  · subst h
    exact (Try.strings_Join_none a cap ⟨#[32]⟩ w).mono fun e w' ⟨he, hw⟩ => ⟨he, hw ▸ Below.refl _ _⟩
  · have hm : (l.map fun p => (⟨p.toArray⟩ : ByteArray)).map (·.data.toList) = l := by
      rw [List.map_map]
      conv => rhs; rw [← List.map_id l]
      exact List.map_congr_left fun p _ => rfl
    have hj : Lib.join ((l.map fun p => (⟨p.toArray⟩ : ByteArray)).map (·.data.toList)) (⟨#[32]⟩ : ByteArray).data.toList = joinC 32 l := by
      rw [hm]; exact join_lib 32 l
    have h := Try.strings_Join b off cap (l.map fun p => (⟨p.toArray⟩ : ByteArray)) ⟨#[32]⟩ w (fun j x hx => by
      rw [List.getElem?_map] at hx
      obtain ⟨p, hp, rfl⟩ := Option.map_eq_some_iff.1 hx
      obtain ⟨hj, rfl⟩ := List.getElem?_eq_some_iff.1 hp
      exact hcell j hj) hb (by rw [List.length_map]; unfold Short at hs; omega) (by rw [List.length_map]; exact hc) (by rw [hj]; have := hs.join; omega)
    rw [hj, List.length_map] at h
    exact h
set_option maxHeartbeats 2000000 in
theorem line_any (a : Option Addr) (cap : Nat) (l : List (List UInt8)) (w : World) (hl : ReadsL encS w.heap.size w a l) (hc : l.length ≤ cap) (hs : Short 100000000 l) :
    Calls Try.prog 16 #[.slice a l.length cap] w fun e w' => e = .returned (.tuple #[.string ⟨(lineT l).toArray⟩, .bool (lineB l)]) ∧ Below w.heap.size w w' := by
  have HL := Lib.hid hl
  have HS := Lib.hid hs
  have hlen : l.length ≤ 100000000 := by unfold Short at hs; omega
  have HB0 := Lib.hid (Below.refl w.heap.size w)
  have H0 : Hid (WordsTo l 0) := Lib.hid ⟨Nat.zero_le _, fun j _ h => by omega⟩
  clear hl hs
  go_enter Try.func16, Try.ntmps16
  go_wp2
  go_loopw [8] (fun i wr => ∃ k : Nat, i = .int .i64 k ∧ k ≤ l.length ∧ Hid (WordsTo l k) ∧ Hid (Below w.heap.size w wr)) (fun i _ => l.length - (intOf i).toNat)
  case atStart => exact ⟨0, rfl, Nat.zero_le _, H0, HB0⟩
  case round =>
    obtain ⟨k, rfl, hkl, HD, HB⟩ := hrel
    by_cases hk : k < l.length
    · obtain ⟨b, off, rfl, hbN, hck⟩ := (HL.out.on HB.out).at hk
      unfold encS at hck
      have HW := Lib.hid (isWord_any ⟨l[k].toArray⟩ wr)
      rw [show (⟨l[k].toArray⟩ : ByteArray).data.toList = l[k] from rfl] at HW
      have HY : Hid (wordB l[k] = true → WordsTo l (k + 1)) := Lib.hid (wordsTo_next HD.out hk)
      have HX : Hid (wordB l[k] = false → lineB l = false ∧ lineT l = []) := Lib.hid fun h => line_bad (List.getElem_mem hk) h
      generalize wordB l[k] = wb at *
      generalize (⟨l[k].toArray⟩ : ByteArray) = x at *
      go_wp2_with fail
      refine HW.out.mono ?_
      rintro e w1 ⟨rfl, hb1⟩
      have HB1 := Lib.hid (HB.out.trans (hb1.mono HB.out.size))
      clear hb1
      cases wb with
      | true =>
        have HN := Lib.hid (HY.out rfl)
        go_wp2
        go_roundw
        case rel => exact ⟨k + 1, by go_num, hk, HN, HB1⟩
        case measure => simp [intOf]; omega
      | false =>
        have HQ := Lib.hid (HX.out rfl)
        go_wp2
        go_ret2
        refine ⟨?_, HB1.out⟩
        rw [HQ.out.1, HQ.out.2]; rfl
    · have HQ := Lib.hid (wordsTo_all HD.out hk)
      have HJ := Lib.hid (join_any a cap l wr (HL.out.over HB.out (Nat.le_refl _)) hc HS.out)
      obtain ⟨X, hX⟩ : ∃ X : ByteArray, X = ⟨(joinC 32 l).toArray⟩ := ⟨_, rfl⟩
      rw [← hX] at HJ
      have HX : Hid (⟨(lineT l).toArray⟩ = X) := Lib.hid (by rw [hX, HQ.out.2])
      clear hX
      go_wp2_with fail
      refine HJ.out.mono ?_
      rintro e w1 ⟨rfl, hb1⟩
      have HB1 := Lib.hid (HB.out.trans (hb1.mono HB.out.size))
      clear hb1 HJ
      go_wp2
      go_ret2
      refine ⟨?_, HB1.out⟩
      rw [HQ.out.1, HX.out]; rfl
/-- The line of the first words. -/
theorem join_next {l : List (List UInt8)} {k : Nat} (h : k < l.length) : joinC 32 (l.take (k + 1)) = (if k = 0 then [] else joinC 32 (l.take k) ++ [32]) ++ l[k] := by
  rw [take_succ' l k h]
  by_cases h0 : k = 0
  · subst h0; rfl
  · rw [if_neg h0]
    have hne : l.take k ≠ [] := by
      intro e
      have e2 := congrArg List.length e
      rw [List.length_take, List.length_nil] at e2
      omega
    rw [join_snoc 32 _ _ hne, List.append_assoc]; rfl
/-- A text, or that there is none, as a struct. -/
def putV (t : List UInt8) (b : Bool) : Value := .agg #[.string ⟨t.toArray⟩, .bool b]
set_option maxHeartbeats 4000000 in
theorem refLine_any (a : Option Addr) (cap : Nat) (l : List (List UInt8)) (w : World) (hl : ReadsL encS w.heap.size w a l) (hs : Short 50000000 l) :
    Calls Try.prog 17 #[.slice a l.length cap] w fun e w' => e = .returned (putV (lineT l) (lineB l)) ∧ Below w.heap.size w w' := by
  have HS := Lib.hid hs
  have hlen : l.length ≤ 50000000 := by unfold Short at hs; omega
  have hb0 := (Below.refl w.heap.size w).alloc (Nat.le_refl _) (.cells #[.string ⟨#[]⟩, .bool false] 37)
  have HB0 := Lib.hid hb0
  have HL := Lib.hid (hl.on hb0)
  have HT0 := Lib.hid (TwoAt.new w (.string ⟨#[]⟩) (.bool false) 37)
  have HZ0 := Lib.hid (Below.refl (w.alloc (.cells #[.string ⟨#[]⟩, .bool false] 37)).heap.size (w.alloc (.cells #[.string ⟨#[]⟩, .bool false] 37)))
  have H0 : Hid (WordsTo l 0) := Lib.hid ⟨Nat.zero_le _, fun j _ h => by omega⟩
  have H1 : Hid (joinC 32 (l.take 0) = []) := Lib.hid rfl
  have hN : w.heap.size < (w.alloc (.cells #[.string ⟨#[]⟩, .bool false] 37)).heap.size := by simp
  clear hl hs hb0
  go_enter Try.func17, Try.ntmps17
  go_wp2
  generalize (w.alloc (.cells #[.string ⟨#[]⟩, .bool false] 37)) = W0 at *
  have HN := Lib.hid hN
  clear hN
  go_loopw [3, 4] (fun t i wr => ∃ (k : Nat) (T : ByteArray), i = .int .i64 k ∧ k ≤ l.length ∧ t = .string T ∧ Hid (T = ⟨(joinC 32 (l.take k)).toArray⟩) ∧ Hid (WordsTo l k) ∧ Hid (Below W0.heap.size W0 wr)) (fun _ i _ => l.length - (intOf i).toNat)
  case atStart => exact ⟨0, ⟨#[]⟩, rfl, Nat.zero_le _, rfl, Lib.hid (by rw [H1.out]), H0, HZ0⟩
  case round =>
    obtain ⟨k, T, rfl, hkl, rfl, HT, HD, HB⟩ := hrel
    have HC := Lib.hid (HT0.out.on HB.out HN.out)
    have HBW := Lib.hid (HB0.out.trans (HB.out.mono HB0.out.size))
    have HSZ : Hid (T.size ≤ 50000000) := Lib.hid (by have := (HS.out.take k).join; rw [HT.out]; show (joinC 32 (l.take k)).toArray.size ≤ _; rw [List.size_toArray]; exact this)
    by_cases hk : k < l.length
    · obtain ⟨b, off, rfl, hbN, hck⟩ := (HL.out.on (HB.out.mono (Nat.le_of_lt HN.out))).at hk
      unfold encS at hck
      have HXS : Hid ((⟨l[k].toArray⟩ : ByteArray).size ≤ 50000000) := Lib.hid (by have := HS.out.one hk; show l[k].toArray.size ≤ _; rw [List.size_toArray]; exact this)
      have HW := Lib.hid (refWord_any ⟨l[k].toArray⟩ (by have := HXS.out; omega) wr)
      rw [show (⟨l[k].toArray⟩ : ByteArray).data.toList = l[k] from rfl] at HW
      have HY : Hid (wordB l[k] = true → WordsTo l (k + 1)) := Lib.hid (wordsTo_next HD.out hk)
      have HX : Hid (wordB l[k] = false → lineB l = false ∧ lineT l = []) := Lib.hid fun h => line_bad (List.getElem_mem hk) h
      have HJ : Hid ((k = 0 → T ++ ⟨l[k].toArray⟩ = ⟨(joinC 32 (l.take (k + 1))).toArray⟩) ∧ (k ≠ 0 → T ++ ⟨#[32]⟩ ++ ⟨l[k].toArray⟩ = ⟨(joinC 32 (l.take (k + 1))).toArray⟩)) := Lib.hid (by
        rw [HT.out, join_next hk]
        refine ⟨fun h0 => ?_, fun h0 => ?_⟩
        · rw [if_pos h0, cat_bytes]; subst h0; rw [H1.out]
        · rw [if_neg h0, show (⟨#[32]⟩ : ByteArray) = ⟨[32].toArray⟩ from rfl, cat_bytes, cat_bytes])
      generalize wordB l[k] = wb at *
      generalize (⟨l[k].toArray⟩ : ByteArray) = x at *
      go_wp2_with fail
      refine HW.out.mono ?_
      rintro e w1 ⟨rfl, hb1⟩
      have HB1 := Lib.hid (HB.out.trans (hb1.mono HB.out.size))
      have hck1 := (hb1.cell (p := ⟨b, off + k, none⟩) (World.block_lt_of_cell? wr _ hck)).trans hck
      have HC1 := Lib.hid (HC.out.on hb1 HC.out.lt)
      have HBW1 := Lib.hid (HBW.out.trans (hb1.mono HBW.out.size))
      clear hb1
      cases wb with
      | true =>
        have HNX := Lib.hid (HY.out rfl)
        have t1 := HSZ.out
        have t2 := HXS.out
        by_cases h0 : k = 0
        · have HJ' := Lib.hid (HJ.out.1 h0)
          have g0 : ¬ (0 : Int) < (k : Int) := by omega
          clear h0 hck
          go_wp2
          go_roundw
          case rel => exact ⟨k + 1, _, by go_num, hk, rfl, HJ', HNX, HB1⟩
          case measure => simp [intOf]; omega
        · have HJ' := Lib.hid (HJ.out.2 h0)
          have g0 : (0 : Int) < (k : Int) := by omega
          clear h0 hck
          go_wp2
          go_roundw
          case rel => exact ⟨k + 1, _, by go_num, hk, rfl, HJ', HNX, HB1⟩
          case measure => simp [intOf]; omega
      | false =>
        have HQ := Lib.hid (HX.out rfl)
        have HX2 : Hid (putV (lineT l) (lineB l) = .agg #[.string ⟨#[]⟩, .bool false]) := Lib.hid (by rw [HQ.out.1, HQ.out.2]; rfl)
        obtain ⟨c0, c1, f0, f1⟩ := HC1.out
        have hz := HC1.out.lt
        clear hck hck1
        go_wp2
        obtain ⟨s0, s1, -, -⟩ := HC1.out.set (.string ⟨#[]⟩) (.bool false)
        refine bodyPost_ret (v := .agg #[.string ⟨#[]⟩, .bool false]) (by simp [results, Try.results17, go_sem, s0, s1]) rfl ⟨by rw [HX2.out], ?_⟩
        exact (HBW1.out.setCell (p := ⟨w.heap.size, 0, none⟩) (Nat.le_refl _) _).setCell (p := ⟨w.heap.size, 1, none⟩) (Nat.le_refl _) _
    · have HQ := Lib.hid (wordsTo_all HD.out hk)
      have HX2 : Hid (putV (lineT l) (lineB l) = .agg #[.string T, .bool true]) := Lib.hid (by rw [HQ.out.1, HQ.out.2, HT.out, List.take_of_length_le (by omega)]; rfl)
      obtain ⟨c0, c1, f0, f1⟩ := HC.out
      have hz := HC.out.lt
      go_wp2
      obtain ⟨s0, s1, -, -⟩ := HC.out.set (.string T) (.bool true)
      refine bodyPost_ret (v := .agg #[.string T, .bool true]) (by simp [results, Try.results17, go_sem, s0, s1]) rfl ⟨by rw [HX2.out], ?_⟩
      exact (HBW.out.setCell (p := ⟨w.heap.size, 0, none⟩) (Nat.le_refl _) _).setCell (p := ⟨w.heap.size, 1, none⟩) (Nat.le_refl _) _
end Go.Proofs.Ythgalcfnaaboeaa.Wd
