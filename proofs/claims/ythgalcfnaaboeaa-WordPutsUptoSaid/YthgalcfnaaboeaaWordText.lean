/- Contracts: the lines of many words as a text, as the program puts them together, and as the document does. -/
import Derived.Test.YthgalcfnaaboeaaWordLine
import Derived.Test.YthgalcfnaaboeaaShBuilder
namespace Go.Proofs.Ythgalcfnaaboeaa.Wd
open Go.RowKit Go.ChangeShapes WordPure Str
/-- What is told of a list of lists of texts that lies in memory. -/
def RowsT (N : Nat) (w : World) (a : Option Addr) (ll : List (List (List UInt8))) : Prop :=
  ll = [] ∨ ∃ b off, a = some ⟨b, off, none⟩ ∧ b < N ∧ ∀ i (h : i < ll.length), ∃ p c, w.cell? ⟨b, off + i, none⟩ = some (.slice p ll[i].length c) ∧ ll[i].length ≤ c ∧ ReadsL encS N w p ll[i]
theorem RowsT.on {N : Nat} {w w' : World} {a : Option Addr} {ll : List (List (List UInt8))} (h : RowsT N w a ll) (hb : Below N w w') : RowsT N w' a ll := by
  rcases h with h | ⟨b, off, ha, hN, hc⟩
  · exact Or.inl h
  · refine Or.inr ⟨b, off, ha, hN, fun i hi => ?_⟩
    obtain ⟨p, c, h1, h2, h3⟩ := hc i hi
    exact ⟨p, c, (hb.cell (by exact hN)).trans h1, h2, h3.on hb⟩
theorem RowsT.mono {N N' : Nat} {w : World} {a : Option Addr} {ll : List (List (List UInt8))} (h : RowsT N w a ll) (hN : N ≤ N') : RowsT N' w a ll := by
  rcases h with h | ⟨b, off, ha, hb, hc⟩
  · exact Or.inl h
  · refine Or.inr ⟨b, off, ha, Nat.lt_of_lt_of_le hb hN, fun i hi => ?_⟩
    obtain ⟨p, c, h1, h2, h3⟩ := hc i hi
    exact ⟨p, c, h1, h2, h3.mono hN⟩
theorem RowsT.over {N : Nat} {w w' : World} {a : Option Addr} {ll : List (List (List UInt8))} (h : RowsT N w a ll) (hb : Below w.heap.size w w') (hN : N ≤ w.heap.size) : RowsT w'.heap.size w' a ll :=
  ((h.mono hN).on hb).mono hb.size
theorem RowsT.at {N : Nat} {w : World} {a : Option Addr} {ll : List (List (List UInt8))} (h : RowsT N w a ll) {k : Nat} (hk : k < ll.length) :
    ∃ b off p c, a = some ⟨b, off, none⟩ ∧ b < N ∧ w.cell? ⟨b, off + k, none⟩ = some (.slice p ll[k].length c) ∧ ll[k].length ≤ c ∧ ReadsL encS N w p ll[k] := by
  rcases h with h | ⟨b, off, ha, hN, hc⟩
  · subst h; simp at hk
  · obtain ⟨p, c, h1, h2, h3⟩ := hc k hk
    exact ⟨b, off, p, c, ha, hN, h1, h2, h3⟩
/-- How long what is put together may be. -/
def bulkT (ll : List (List (List UInt8))) : Nat := (ll.map fun ps => Lib.lens ps + ps.length + 1).sum
theorem bulkT_mem {ll : List (List (List UInt8))} {ps : List (List UInt8)} (h : ps ∈ ll) : Lib.lens ps + ps.length + 1 ≤ bulkT ll := by
  induction ll with
  | nil => simp at h
  | cons q r ih =>
    unfold bulkT at ih ⊢
    rw [List.map_cons, List.sum_cons]
    rw [List.mem_cons] at h
    rcases h with h | h
    · subst h; omega
    · have := ih h; omega
theorem bulkT_take (ll : List (List (List UInt8))) (k : Nat) : bulkT (ll.take k) ≤ bulkT ll := by
  induction ll generalizing k with
  | nil => simp [bulkT]
  | cons q r ih =>
    cases k with
    | zero => simp [bulkT]
    | succ k =>
      have := ih k
      unfold bulkT at this ⊢
      rw [List.take_succ_cons, List.map_cons, List.sum_cons, List.map_cons, List.sum_cons]
      omega
theorem textJ_len (ll : List (List (List UInt8))) : (textJ ll).length ≤ bulkT ll := by
  induction ll with
  | nil => simp [textJ, bulkT]
  | cons q r ih =>
    have := join_len 32 q
    unfold textJ bulkT at ih ⊢
    rw [List.map_cons, List.flatten_cons, List.map_cons, List.sum_cons, List.length_append, List.length_append, List.length_singleton]
    omega
theorem bulkT_len (ll : List (List (List UInt8))) : ll.length ≤ bulkT ll := by
  induction ll with
  | nil => simp
  | cons q r ih =>
    unfold bulkT at ih ⊢
    rw [List.map_cons, List.sum_cons, List.length_cons]
    omega
/-- So many of them are lines. -/
def LinesTo (ll : List (List (List UInt8))) (k : Nat) : Prop := k ≤ ll.length ∧ ∀ j (h : j < ll.length), j < k → lineB ll[j] = true
theorem linesTo_next {ll : List (List (List UInt8))} {k : Nat} (h : LinesTo ll k) (hk : k < ll.length) (hw : lineB ll[k] = true) : LinesTo ll (k + 1) :=
  ⟨hk, fun j hj hjk => by
    rcases Nat.lt_succ_iff_lt_or_eq.1 hjk with h2 | h2
    · exact h.2 j hj h2
    · subst h2; exact hw⟩
theorem linesTo_all {ll : List (List (List UInt8))} {k : Nat} (h : LinesTo ll k) (hk : ¬ k < ll.length) : textB ll = true ∧ textT ll = textJ ll :=
  text_good fun p hp => by
    obtain ⟨j, hj, rfl⟩ := List.getElem_of_mem hp
    exact h.2 j hj (by omega)
theorem text_next {ll : List (List (List UInt8))} {k : Nat} (hk : k < ll.length) : textJ (ll.take (k + 1)) = textJ (ll.take k) ++ (joinC 32 ll[k] ++ [10]) := by
  rw [take_succ' ll k hk, textJ_snoc]
/-- At the head of a round of Text. -/
def TextRel (w0 : World) (ll : List (List (List UInt8))) (k : Nat) (w : World) : Prop :=
  Below w0.heap.size w0 w ∧ Lib.IsBuilder 50 5 w0.heap.size w0.heap.size (Lib.byteCells (textJ (ll.take k))) w ∧ LinesTo ll k
set_option maxHeartbeats 4000000 in
theorem text_any (a : Option Addr) (cap : Nat) (ll : List (List (List UInt8))) (w : World) (hl : RowsT w.heap.size w a ll) (hs : bulkT ll ≤ 50000000) :
    Calls Try.prog 18 #[.slice a ll.length cap] w fun e w' => e = .returned (.tuple #[.string ⟨(textT ll).toArray⟩, .bool (textB ll)]) ∧ Below w.heap.size w w' := by
  have HL := Lib.hid hl
  have HSH := Lib.hid hs
  have hlen : ll.length ≤ 50000000 := Nat.le_trans (bulkT_len ll) hs
  have hB0 := (Below.refl w.heap.size w).alloc (Nat.le_refl _) (.cells #[.pointer none, .slice none 0 0] 50)
  have HS : Hid (TextRel w ll 0 (w.alloc (.cells #[.pointer none, .slice none 0 0] 50))) := Lib.hid ⟨hB0, Lib.fresh_isBuilder _ _ w, Nat.zero_le _, fun j _ h => by omega⟩
  clear hl hs hB0
  go_enter Try.func18, Try.ntmps18
  go_wp2
  go_loopw [11] (fun i wr => ∃ k : Nat, i = .int .i64 k ∧ k ≤ ll.length ∧ Hid (TextRel w ll k wr)) (fun i _ => ll.length - (intOf i).toNat)
  case atStart => exact ⟨0, rfl, Nat.zero_le _, HS⟩
  case round =>
    obtain ⟨k, rfl, hkl, HF⟩ := hrel
    have hsz := HF.out.1.size
    by_cases hk : k < ll.length
    · obtain ⟨b, off, p, c, rfl, hbN, hck, hpc, hr⟩ := (HL.out.on HF.out.1).at hk
      have HSS : Hid (Short 50000000 ll[k]) := Lib.hid (by have := bulkT_mem (List.getElem_mem hk); have := HSH.out; unfold Short; omega)
      have HI := Lib.hid (line_any p c ll[k] wr (hr.mono hsz) hpc (by have := HSS.out; unfold Short at this ⊢; omega))
      have HY : Hid (lineB ll[k] = true → LinesTo ll (k + 1) ∧ lineT ll[k] = joinC 32 ll[k]) := Lib.hid fun h => ⟨linesTo_next HF.out.2.2 hk h, (line_good ((line_iff _).1 h)).2⟩
      have HX : Hid (lineB ll[k] = false → textB ll = false ∧ textT ll = []) := Lib.hid fun h => text_bad (List.getElem_mem hk) h
      have HNX := Lib.hid (text_next hk)
      have HJL := Lib.hid HSS.out.join
      have HTL := Lib.hid (Nat.le_trans (textJ_len (ll.take k)) (bulkT_take ll k))
      generalize ll[k] = ps at *
      generalize lineB ps = lb at *
      go_wp2_with fail
      refine HI.out.mono ?_
      rintro e w1 ⟨rfl, hb1⟩
      have HB1 := Lib.hid (HF.out.1.trans (hb1.mono hsz))
      have HU1 := Lib.hid (builder_on HF.out.2.1 hb1)
      have hsz1 := HB1.out.size
      clear hb1 HI hr
      cases lb with
      | true =>
        obtain ⟨hn, ht⟩ := HY.out rfl
        have HN := Lib.hid hn
        rw [ht]
        clear hn ht
        have HQ1 : Hid ((textJ (ll.take k)).length + (⟨(joinC 32 ps).toArray⟩ : ByteArray).size ≤ 140737488355328) := Lib.hid (by have h1 := HJL.out; have h2 := HTL.out; have h3 := HSH.out; show _ + (joinC 32 ps).toArray.size ≤ _; rw [List.size_toArray]; omega)
        have HQ2 : Hid ((textJ (ll.take k) ++ joinC 32 ps).length + 1 ≤ 140737488355328) := Lib.hid (by have h1 := HJL.out; have h2 := HTL.out; have h3 := HSH.out; rw [List.length_append]; omega)
        go_wp2_with fail
        refine (Try.Builder_WriteString w.heap.size w.heap.size _ ⟨(joinC 32 ps).toArray⟩ w1 HU1.out (by rw [Lib.byteCells_length]; exact HQ1.out) hsz1).mono ?_
        rintro e w2 ⟨rfl, hu2, hb2⟩
        have HB2 := Lib.hid (HB1.out.trans hb2)
        have HU2 : Hid (Lib.IsBuilder 50 5 w.heap.size w.heap.size (Lib.byteCells (textJ (ll.take k) ++ joinC 32 ps)) w2) := Lib.hid (by rw [Lib.byteCells_append]; exact Or.inr hu2)
        have hsz2 := HB2.out.size
        clear hu2 hb2
        go_wp2_with fail
        refine (Try.Builder_WriteByte w.heap.size w.heap.size _ 10 w2 HU2.out (by rw [Lib.byteCells_length]; exact HQ2.out) hsz2).mono ?_
        rintro e w3 ⟨rfl, hu3, hb3⟩
        have HW : Hid (TextRel w ll (k + 1) w3) := Lib.hid ⟨HB2.out.trans hb3, by
          rw [HNX.out, ← List.append_assoc, Lib.byteCells_append]
          exact Or.inr hu3, HN.out⟩
        clear hu3 hb3
        go_wp2
        go_roundw
        case rel => exact ⟨k + 1, by go_num, hk, HW⟩
        case measure => simp [intOf]; omega
      | false =>
        have HQ := Lib.hid (HX.out rfl)
        go_wp2
        go_ret2
        refine ⟨?_, HB1.out⟩
        rw [HQ.out.1, HQ.out.2]; rfl
    · have HQ := Lib.hid (linesTo_all HF.out.2.2 hk)
      have HE : Hid (ll.take k = ll) := Lib.hid (List.take_of_length_le (by omega))
      have HUU : Hid (Lib.IsBuilder 50 5 w.heap.size w.heap.size (Lib.byteCells (textT ll)) wr) := Lib.hid (by have h := HF.out.2.1; rw [HE.out] at h; rw [HQ.out.2]; exact h)
      go_wp2_with fail
      refine (Try.Builder_String_any w.heap.size w.heap.size _ wr HUU.out hsz).mono ?_
      rintro e w2 ⟨rfl, hb2⟩
      have HB2 := Lib.hid (HF.out.1.trans hb2)
      clear hb2
      go_wp2
      go_ret2
      refine ⟨?_, HB2.out⟩
      rw [HQ.out.1]; rfl
set_option maxHeartbeats 4000000 in
theorem refText_any (a : Option Addr) (cap : Nat) (ll : List (List (List UInt8))) (w : World) (hl : RowsT w.heap.size w a ll) (hs : bulkT ll ≤ 50000000) :
    Calls Try.prog 19 #[.slice a ll.length cap] w fun e w' => e = .returned (putV (textT ll) (textB ll)) ∧ Below w.heap.size w w' := by
  have HS := Lib.hid hs
  have hlen : ll.length ≤ 50000000 := Nat.le_trans (bulkT_len ll) hs
  have hb0 := (Below.refl w.heap.size w).alloc (Nat.le_refl _) (.cells #[.string ⟨#[]⟩, .bool false] 37)
  have HB0 := Lib.hid hb0
  have HL := Lib.hid (hl.on hb0)
  have HT0 := Lib.hid (TwoAt.new w (.string ⟨#[]⟩) (.bool false) 37)
  have HZ0 := Lib.hid (Below.refl (w.alloc (.cells #[.string ⟨#[]⟩, .bool false] 37)).heap.size (w.alloc (.cells #[.string ⟨#[]⟩, .bool false] 37)))
  have H0 : Hid (LinesTo ll 0) := Lib.hid ⟨Nat.zero_le _, fun j _ h => by omega⟩
  have H1 : Hid (textJ (ll.take 0) = []) := Lib.hid rfl
  have hN : w.heap.size < (w.alloc (.cells #[.string ⟨#[]⟩, .bool false] 37)).heap.size := by simp
  clear hl hs hb0
  go_enter Try.func19, Try.ntmps19
  go_wp2
  generalize (w.alloc (.cells #[.string ⟨#[]⟩, .bool false] 37)) = W0 at *
  have HN := Lib.hid hN
  clear hN
  go_loopw [3, 4] (fun t i wr => ∃ (k : Nat) (T : ByteArray), i = .int .i64 k ∧ k ≤ ll.length ∧ t = .string T ∧ Hid (T = ⟨(textJ (ll.take k)).toArray⟩) ∧ Hid (LinesTo ll k) ∧ Hid (Below W0.heap.size W0 wr)) (fun _ i _ => ll.length - (intOf i).toNat)
  case atStart => exact ⟨0, ⟨#[]⟩, rfl, Nat.zero_le _, rfl, Lib.hid (by rw [H1.out]), H0, HZ0⟩
  case round =>
    obtain ⟨k, T, rfl, hkl, rfl, HT, HD, HB⟩ := hrel
    have HC := Lib.hid (HT0.out.on HB.out HN.out)
    have HBW := Lib.hid (HB0.out.trans (HB.out.mono HB0.out.size))
    have HSZ : Hid (T.size ≤ 50000000) := Lib.hid (by have h1 := textJ_len (ll.take k); have h2 := bulkT_take ll k; have h3 := HS.out; rw [HT.out]; show (textJ (ll.take k)).toArray.size ≤ _; rw [List.size_toArray]; omega)
    by_cases hk : k < ll.length
    · obtain ⟨b, off, p, c, rfl, hbN, hck, hpc, hr⟩ := (HL.out.on (HB.out.mono (Nat.le_of_lt HN.out))).at hk
      have HSS : Hid (Short 50000000 ll[k]) := Lib.hid (by have := bulkT_mem (List.getElem_mem hk); have := HS.out; unfold Short; omega)
      have HI := Lib.hid (refLine_any p c ll[k] wr (hr.mono HBW.out.size) HSS.out)
      have HY : Hid (lineB ll[k] = true → LinesTo ll (k + 1) ∧ T ++ ⟨(lineT ll[k]).toArray⟩ ++ ⟨#[10]⟩ = ⟨(textJ (ll.take (k + 1))).toArray⟩) := Lib.hid fun h => ⟨linesTo_next HD.out hk h, by
        rw [HT.out, text_next hk, (line_good ((line_iff _).1 h)).2, show (⟨#[10]⟩ : ByteArray) = ⟨[10].toArray⟩ from rfl, cat_bytes, cat_bytes, List.append_assoc]⟩
      have HX : Hid (lineB ll[k] = false → textB ll = false ∧ textT ll = []) := Lib.hid fun h => text_bad (List.getElem_mem hk) h
      have HXS : Hid ((⟨(lineT ll[k]).toArray⟩ : ByteArray).size ≤ 50000000) := Lib.hid (by
        have h := HSS.out.join
        show (lineT ll[k]).toArray.size ≤ _
        rw [List.size_toArray]
        unfold lineT
        split
        · exact h
        · simp)
      unfold putV at HI
      generalize lineB ll[k] = lb at *
      generalize (⟨(lineT ll[k]).toArray⟩ : ByteArray) = Y at *
      go_wp2_with fail
      refine HI.out.mono ?_
      rintro e w1 ⟨rfl, hb1⟩
      have HB1 := Lib.hid (HB.out.trans (hb1.mono HB.out.size))
      have hc1 := HC.out.on hb1 HC.out.lt
      have hbw1 := HBW.out.trans (hb1.mono HBW.out.size)
      have HC1 := Lib.hid hc1
      have HBW1 := Lib.hid hbw1
      have hz := hc1.lt
      obtain ⟨c0, c1, f0, f1⟩ := hc1
      clear hb1 HI hr hck hbw1
      cases lb with
      | true =>
        obtain ⟨hn, ht⟩ := HY.out rfl
        have HNX := Lib.hid hn
        have HJ := Lib.hid ht
        have HB2 : Hid (Below W0.heap.size W0 (w1.alloc (.cells #[.string Y, .bool true] 37))) := Lib.hid (HB1.out.trans ((Below.refl _ _).alloc HB1.out.size _))
        have t1 := HSZ.out
        have t2 := HXS.out
        clear hn ht c0 c1 f0 f1
        go_wp2
        go_roundw
        case rel => exact ⟨k + 1, _, by go_num, hk, rfl, HJ, HNX, HB2⟩
        case measure => simp [intOf]; omega
      | false =>
        have HQ := Lib.hid (HX.out rfl)
        have HX2 : Hid (putV (textT ll) (textB ll) = .agg #[.string ⟨#[]⟩, .bool false]) := Lib.hid (by rw [HQ.out.1, HQ.out.2]; rfl)
        go_wp2
        have hq := HC1.out.set (.string ⟨#[]⟩) (.bool false)
        obtain ⟨s0, s1, -, -⟩ := hq.on ((Below.refl _ _).alloc (Nat.le_refl _) (.cells #[.string Y, .bool false] 37)) hq.lt
        refine bodyPost_ret (v := .agg #[.string ⟨#[]⟩, .bool false]) (by simp [results, Try.results19, go_sem, s0, s1]) rfl ⟨by rw [HX2.out], ?_⟩
        exact ((HBW1.out.setCell (p := ⟨w.heap.size, 0, none⟩) (Nat.le_refl _) _).setCell (p := ⟨w.heap.size, 1, none⟩) (Nat.le_refl _) _).alloc (by simp; omega) _
    · have HQ := Lib.hid (linesTo_all HD.out hk)
      have HX2 : Hid (putV (textT ll) (textB ll) = .agg #[.string T, .bool true]) := Lib.hid (by rw [HQ.out.1, HQ.out.2, HT.out, List.take_of_length_le (by omega)]; rfl)
      obtain ⟨c0, c1, f0, f1⟩ := HC.out
      have hz := HC.out.lt
      go_wp2
      obtain ⟨s0, s1, -, -⟩ := HC.out.set (.string T) (.bool true)
      refine bodyPost_ret (v := .agg #[.string T, .bool true]) (by simp [results, Try.results19, go_sem, s0, s1]) rfl ⟨by rw [HX2.out], ?_⟩
      exact (HBW.out.setCell (p := ⟨w.heap.size, 0, none⟩) (Nat.le_refl _) _).setCell (p := ⟨w.heap.size, 1, none⟩) (Nat.le_refl _) _
end Go.Proofs.Ythgalcfnaaboeaa.Wd
