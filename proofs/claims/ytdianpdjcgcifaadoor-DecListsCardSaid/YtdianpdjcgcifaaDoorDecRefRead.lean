/- A contract for the numbers of a text, as the document reads them. -/
import Derived.Test.YtdianpdjcgcifaaDoorDecRead
namespace Go.Proofs.YtdianpdjcgcifaaDoor
open Go.RowKit Go.ChangeShapes DecPure First
/-- What is cut off so far: the parts d; from f on there was no blank up to k; or the end has come. -/
def CutAt (l : List UInt8) (d : List (List UInt8)) (f k : Nat) : Prop :=
  (k ≤ l.length ∧ f ≤ k ∧ l ≠ [] ∧ parts l = d ++ splitB (l.drop f) ∧ NoB ((l.drop f).take (k - f))) ∨ (((l = [] ∧ k = 0) ∨ k = l.length + 1) ∧ parts l = d)
theorem cutAt_start (l : List UInt8) : CutAt l [] 0 0 := by
  by_cases h : l = []
  · exact Or.inr ⟨Or.inl ⟨h, rfl⟩, by rw [h]; rfl⟩
  · refine Or.inl ⟨Nat.zero_le _, Nat.le_refl _, h, ?_, fun c hc => by simp at hc⟩
    rw [parts_some h]; rfl
theorem cutAt_run {l : List UInt8} {d : List (List UInt8)} {f k : Nat} (h : CutAt l d f k) (hk : k ≤ l.length) (hl : l ≠ []) : f ≤ k ∧ parts l = d ++ splitB (l.drop f) ∧ NoB ((l.drop f).take (k - f)) := by
  rcases h with ⟨-, h2, -, h4, h5⟩ | ⟨⟨h, -⟩ | h, -⟩
  · exact ⟨h2, h4, h5⟩
  · exact absurd h hl
  · omega
theorem cutAt_end {l : List UInt8} {d : List (List UInt8)} {f k : Nat} (h : CutAt l d f k) (hk : l = [] ∨ ¬ k ≤ l.length) : parts l = d := by
  rcases h with ⟨h1, -, h3, -, -⟩ | ⟨-, h⟩
  · rcases hk with hk | hk
    · exact absurd hk h3
    · exact absurd h1 hk
  · exact h
theorem drop_take_snoc (l : List UInt8) (f k : Nat) (hf : f ≤ k) (hk : k < l.length) : (l.drop f).take (k + 1 - f) = (l.drop f).take (k - f) ++ [l[k]] := by
  have h1 : k + 1 - f = (k - f) + 1 := by omega
  have h2 : k - f < (l.drop f).length := by rw [List.length_drop]; omega
  rw [h1, take_snoc _ _ h2, List.getElem_drop]
  congr 3
  omega
theorem cutAt_skip {l : List UInt8} {d : List (List UInt8)} {f k : Nat} (h : CutAt l d f k) (hk : k < l.length) (hc : l[k] ≠ 32) : CutAt l d f (k + 1) := by
  have hl : l ≠ [] := by intro e; rw [e] at hk; simp at hk
  obtain ⟨h1, h2, h3⟩ := cutAt_run h (by omega) hl
  refine Or.inl ⟨hk, by omega, hl, h2, fun c hx => ?_⟩
  rw [drop_take_snoc l f k h1 hk, List.mem_append] at hx
  rcases hx with hx | hx
  · exact h3 c hx
  · rw [List.mem_singleton.1 hx]; exact hc
theorem cutAt_cut {l : List UInt8} {d : List (List UInt8)} {f k : Nat} (h : CutAt l d f k) (hl : l ≠ []) (hk : k = l.length ∨ ∃ h : k < l.length, l[k] = 32) :
    CutAt l (d ++ [(l.drop f).take (k - f)]) (k + 1) (k + 1) ∧ ∃ r, parts l = d ++ (l.drop f).take (k - f) :: r := by
  have hkl : k ≤ l.length := by rcases hk with h | ⟨h, -⟩ <;> omega
  obtain ⟨h1, h2, h3⟩ := cutAt_run h hkl hl
  rcases hk with hk | ⟨hk, hc⟩
  · have e : (l.drop f).take (k - f) = l.drop f := List.take_of_length_le (by rw [List.length_drop]; omega)
    rw [e] at h3
    rw [split_none h3] at h2
    rw [e]
    exact ⟨Or.inr ⟨Or.inr (by omega), h2⟩, [], h2⟩
  · have e : l.drop f = (l.drop f).take (k - f) ++ 32 :: l.drop (k + 1) := by
      have e1 := List.take_append_drop (k - f) (l.drop f)
      have e2 : (l.drop f).drop (k - f) = l.drop k := by rw [List.drop_drop]; congr 1; omega
      rw [e2, List.drop_eq_getElem_cons hk, hc] at e1
      exact e1.symm
    have h4 : parts l = d ++ (l.drop f).take (k - f) :: splitB (l.drop (k + 1)) := by
      rw [h2]
      conv => lhs; rw [e]
      rw [split_hit _ _ h3]
    refine ⟨Or.inl ⟨hk, Nat.le_refl _, hl, by rw [h4, List.append_assoc]; rfl, fun c hx => by simp at hx⟩, _, h4⟩
theorem extract_mid (s : ByteArray) (f k : Nat) : (s.extract f k).data.toList = (s.data.toList.drop f).take (k - f) := by
  rw [Lib.extract_eq]
/-- At the head of a round of the document's Read. -/
def DocRel (N : Nat) (w0 : World) (l : List UInt8) (d : List (List UInt8)) (f k : Nat) (v : Value) (w : World) : Prop :=
  CutAt l d f k ∧ (∀ p ∈ d, parseE p = 0) ∧ d.length ≤ k ∧ GrowRel (encInt .i64) 2 w0 (d.map parseN) v w ∧ ThreeAt N w (.slice none 0 0) (.int .i64 0) (.int .i64 0) ∧ N < w0.heap.size
theorem DocRel.on {N : Nat} {w0 w w' : World} {l : List UInt8} {d : List (List UInt8)} {f k : Nat} {v : Value} (h : DocRel N w0 l d f k v w) (hb : Below w.heap.size w w') : DocRel N w0 l d f k v w' :=
  ⟨h.1, h.2.1, h.2.2.1, h.2.2.2.1.on hb, h.2.2.2.2.1.on hb h.2.2.2.2.1.lt, h.2.2.2.2.2⟩
theorem DocRel.skip {N : Nat} {w0 w : World} {l : List UInt8} {d : List (List UInt8)} {f k : Nat} {v : Value} (h : DocRel N w0 l d f k v w) (hk : k < l.length) (hc : l[k] ≠ 32) : DocRel N w0 l d f (k + 1) v w :=
  ⟨cutAt_skip h.1 hk hc, h.2.1, by have := h.2.2.1; omega, h.2.2.2.1, h.2.2.2.2.1, h.2.2.2.2.2⟩
theorem DocRel.step {N : Nat} {w0 w w' : World} {l : List UInt8} {d : List (List UInt8)} {f k : Nat} {v v' : Value} {o : Obj} (h : DocRel N w0 l d f k v w) (hl : l ≠ []) (hk : k = l.length ∨ ∃ h : k < l.length, l[k] = 32) (hp : parseE ((l.drop f).take (k - f)) = 0)
    (h1 : w'.ownsRow w0.heap.size 2 1 v' ((d.map parseN).length + 1) ((d.map parseN).map (encInt .i64) ++ [encInt .i64 (parseN ((l.drop f).take (k - f)))])) (hg : (w.alloc o).grownBy w' v.ownBlock) :
    DocRel N w0 l (d ++ [(l.drop f).take (k - f)]) (k + 1) (k + 1) v' w' := by
  obtain ⟨g1, g2, g3, g4, g5, g6⟩ := h
  refine ⟨(cutAt_cut g1 hl hk).1, fun p hq => ?_, by rw [List.length_append, List.length_singleton]; omega, ?_, ?_, g6⟩
  · rw [List.mem_append] at hq
    rcases hq with hq | hq
    · exact g2 p hq
    · rw [List.mem_singleton.1 hq]; exact hp
  · rw [List.map_append]
    exact g4.step _ h1 hg
  · have hgr : Below (N + 1) w w' := by
      have b1 : Below (N + 1) w (w.alloc o) := (Below.refl _ _).alloc (by have := g5.lt; omega) o
      exact b1.grown hg (by have := g5.lt; simp; omega) fun j hj => by have := (g4.2.lt j hj).1; omega
    exact g5.on hgr (by omega)
def DocOut (l : List UInt8) (e : Ending) (w' : World) : Prop :=
  (readE l = 0 ∧ readAt l = 0 ∧ ∃ p cap, e = .returned (.agg #[.slice p (readL l).length cap, .int .i64 0, .int .i64 0]) ∧ ReadsL (encInt .i64) w'.heap.size w' p (readL l)) ∨
  (readE l ≠ 0 ∧ e = .returned (.agg #[.slice none 0 0, .int .i64 (readE l), .int .i64 (readAt l)]))
theorem DocRel.bad {N : Nat} {w0 w : World} {l : List UInt8} {d : List (List UInt8)} {f k : Nat} {v : Value} (h : DocRel N w0 l d f k v w) (hl : l ≠ []) (hk : k = l.length ∨ ∃ h : k < l.length, l[k] = 32) (hp : parseE ((l.drop f).take (k - f)) ≠ 0) (w' : World) :
    DocOut l (.returned (.agg #[.slice none 0 0, .int .i64 (parseE ((l.drop f).take (k - f))), .int .i64 (d.length : Int)])) w' := by
  obtain ⟨r, e⟩ := (cutAt_cut h.1 hl hk).2
  have ha := first_at parseE d r _ h.2.1 hp
  rw [← e] at ha
  exact Or.inr ⟨by unfold readE; rw [ha.1]; exact hp, by unfold readE readAt; rw [ha.1, ha.2]⟩
/-- The numbers of all parts are read. -/
theorem DocRel.all {N : Nat} {w0 w : World} {l : List UInt8} {d : List (List UInt8)} {f k : Nat} {v : Value} (h : DocRel N w0 l d f k v w) (hk : l = [] ∨ ¬ k ≤ l.length) : readE l = 0 ∧ readAt l = 0 ∧ readL l = d.map parseN := by
  have hd := cutAt_end h.1 hk
  have hn := none_at parseE d h.2.1
  rw [← hd] at hn
  exact ⟨hn.1, hn.2, by unfold readL; rw [hd]⟩
set_option maxHeartbeats 4000000 in
theorem refRead_any (s : ByteArray) (hs : s.size ≤ 1000000) (w : World) :
    Calls Tryd.prog 14 #[.string s] w fun e w' => DocOut s.data.toList e w' ∧ Below w.heap.size w w' := by
  obtain ⟨i0, hi, hz0, hz1, hz2⟩ := info_parts infoI64
  have hW0 : Below w.heap.size w (w.alloc (.cells #[.slice none 0 0, .int .i64 0, .int .i64 0] 37)) := (Below.refl _ _).alloc (Nat.le_refl _) _
  have HS : Hid (DocRel w.heap.size (w.alloc (.cells #[.slice none 0 0, .int .i64 0, .int .i64 0] 37)) s.data.toList [] 0 0 (.slice none 0 0) (w.alloc (.cells #[.slice none 0 0, .int .i64 0, .int .i64 0] 37))) :=
    Lib.hid ⟨cutAt_start _, fun p hp => by simp at hp, Nat.le_refl _, GrowRel.start _ _ _, ThreeAt.new _ _ _ _ _, by simp⟩
  have HB0 := Lib.hid hW0
  have HSZ := Lib.hid (Lib.size_eq s)
  clear hW0
  go_enter Tryd.func14, Tryd.ntmps14
  go_wp2
  generalize (w.alloc (.cells #[.slice none 0 0, .int .i64 0, .int .i64 0] 37)) = W0 at *
  go_loopw [3, 4, 5] (fun v g i wr => ∃ (d : List (List UInt8)) (f k : Nat), g = .int .i64 f ∧ i = .int .i64 k ∧ f ≤ s.size + 1 ∧ k ≤ s.size + 1 ∧ Hid (DocRel w.heap.size W0 s.data.toList d f k v wr)) (fun _ _ i _ => s.size + 1 - (intOf i).toNat)
  case atStart => exact ⟨[], 0, 0, rfl, rfl, by omega, by omega, HS⟩
  case round =>
    obtain ⟨d, f, k, rfl, rfl, hf1, hk1, HF⟩ := hrel
    have hBr := Lib.hid (HB0.out.trans (HF.out.2.2.2.1.1.mono HB0.out.size))
    by_cases hrun : k ≤ s.size ∧ 0 < s.size
    · obtain ⟨hk, h0⟩ := hrun
      have HL : Hid (s.data.toList ≠ []) := Lib.hid (fun e => by have := HSZ.out; rw [e, List.length_nil] at this; omega)
      have hfk : f ≤ k := (cutAt_run HF.out.1 (by have := HSZ.out; omega) HL.out).1
      by_cases hcut : k = s.size ∨ ∃ h : k < s.size, s[k] = 32
      · have HK : Hid (k = s.data.toList.length ∨ ∃ h : k < s.data.toList.length, s.data.toList[k] = 32) := Lib.hid (by
          rcases hcut with h | ⟨h, h2⟩
          · exact Or.inl (by have := HSZ.out; omega)
          · exact Or.inr ⟨by have := HSZ.out; omega, h2⟩)
        have HP := Lib.hid (refParse_any (s.extract f k) (by rw [ByteArray.size_extract]; omega) wr)
        rw [extract_mid] at HP
        have HBAD : Hid (parseE ((s.data.toList.drop f).take (k - f)) ≠ 0 → ∀ w', DocOut s.data.toList (.returned (.agg #[.slice none 0 0, .int .i64 (parseE ((s.data.toList.drop f).take (k - f))), .int .i64 (d.length : Int)])) w') := Lib.hid fun h => HF.out.bad HL.out HK.out h
        have HST : Hid (∀ w1 w3 v' o, DocRel w.heap.size W0 s.data.toList d f k u3 w1 → parseE ((s.data.toList.drop f).take (k - f)) = 0 → w3.ownsRow W0.heap.size 2 1 v' ((d.map parseN).length + 1) ((d.map parseN).map (encInt .i64) ++ [.int .i64 (parseN ((s.data.toList.drop f).take (k - f)))]) → (w1.alloc o).grownBy w3 u3.ownBlock → ∃ d', DocRel w.heap.size W0 s.data.toList d' (k + 1) (k + 1) v' w3) :=
          Lib.hid fun w1 w3 v' o h hp h1 h2 => ⟨_, h.step HL.out HK.out hp h1 h2⟩
        generalize parseE ((s.data.toList.drop f).take (k - f)) = pe at *
        generalize parseN ((s.data.toList.drop f).take (k - f)) = pn at *
        have hlen : (d.map parseN).length ≤ 1000001 := by rw [List.length_map]; have := HF.out.2.2.1; omega
        rcases hcut with hke | ⟨hp, h32⟩
        · have tk : (((k : Nat) : Int) == ((s.size : Nat) : Int)) = true := by rw [hke]; simp
          clear hke
          go_wp2_with fail
          refine HP.out.mono ?_
          rintro e w1 ⟨rfl, hb1⟩
          have HB1 := Lib.hid (hBr.out.trans (hb1.mono hBr.out.size))
          have hf1 := HF.out.on hb1
          have hf2 := hf1.on ((Below.refl _ _).alloc (Nat.le_refl _) (.cells #[.int .i64 pn, .int .i64 pe] 28))
          have HF1 := Lib.hid hf1
          have HF2 := Lib.hid hf2
          have hsz := hf1.2.2.2.1.1.size
          have hNz := hf1.2.2.2.2.2
          obtain ⟨c0, c1, c2, f0, f1, f2⟩ := hf1.2.2.2.2.1
          clear hb1 hf1 hf2
          by_cases hpe : pe = 0
          · subst hpe
            clear c0 c1 c2 f0 f1 f2
            go_wp2_with (first
              | (at_builtin; refine wpList_append_own _ rfl _ _ 33 rfl W0.heap.size 2 i0 (.int .i64 0) 1 8 Tryd.underlying33 hi hz0 hz1 hz2 rfl (by decide) u3 (d.map parseN).length ((d.map parseN).map (encInt .i64)) rfl (HF2.out.2.2.2.1.2.alloc _) ⟨w1.heap.size + 1, 0, none⟩ 1 1 [.int .i64 pn] rfl rfl (one_newsAt (by simp)) (by intro u hu; simp at hu; subst hu; rfl) (by unfold maxLen; omega) (by omega) (by simp; omega) ?_))
            intro v' w3 hown hgrow _
            obtain ⟨d', hd'⟩ := HST.out _ w3 v' _ HF2.out (by trivial) (by simp only [List.length_map, List.map_map]; exact hown) hgrow
            have HN := Lib.hid hd'
            clear hown hgrow hd'
            go_wp2
            go_roundw
            case rel => exact ⟨d', k + 1, k + 1, by go_num, by go_num, by omega, by omega, HN⟩
            case measure => simp [intOf]; omega
          · have t : (pe != 0) = true := by simpa using hpe
            have t2 : (pe == 0) = false := by simpa using hpe
            have HO := Lib.hid (HBAD.out hpe)
            obtain ⟨p, cap, rfl, -, -⟩ := HF1.out.2.2.2.1.reads
            have hz := HF1.out.2.2.2.2.1.lt
            clear hpe
            go_wp2
            have hq := ((HF1.out.2.2.2.2.1.set (.slice none 0 0) (.int .i64 pe) (.int .i64 (d.length : Int))))
            obtain ⟨s0, s1, s2, -, -, -⟩ := hq.on ((Below.refl _ _).alloc (Nat.le_refl _) (.cells #[.int .i64 pn, .int .i64 pe] 28)) hq.lt
            refine bodyPost_ret (v := .agg #[.slice none 0 0, .int .i64 pe, .int .i64 (d.length : Int)]) (by simp [results, Tryd.results14, go_sem, s0, s1, s2]) rfl ⟨HO.out _, ?_⟩
            exact (((HB1.out.setCell (p := ⟨w.heap.size, 0, none⟩) (Nat.le_refl _) _).setCell (p := ⟨w.heap.size, 1, none⟩) (Nat.le_refl _) _).setCell (p := ⟨w.heap.size, 2, none⟩) (Nat.le_refl _) _).alloc (by simp; omega) _
        · have tk : (((k : Nat) : Int) == ((s.size : Nat) : Int)) = false := by rw [beq_eq_false_iff_ne]; omega
          have tc : (((s[k].toNat : Nat) : Int) == 32) = true := by rw [h32]; rfl
          clear h32
          go_wp2_with fail
          refine HP.out.mono ?_
          rintro e w1 ⟨rfl, hb1⟩
          have HB1 := Lib.hid (hBr.out.trans (hb1.mono hBr.out.size))
          have hf1 := HF.out.on hb1
          have hf2 := hf1.on ((Below.refl _ _).alloc (Nat.le_refl _) (.cells #[.int .i64 pn, .int .i64 pe] 28))
          have HF1 := Lib.hid hf1
          have HF2 := Lib.hid hf2
          have hsz := hf1.2.2.2.1.1.size
          have hNz := hf1.2.2.2.2.2
          obtain ⟨c0, c1, c2, f0, f1, f2⟩ := hf1.2.2.2.2.1
          clear hb1 hf1 hf2
          by_cases hpe : pe = 0
          · subst hpe
            clear c0 c1 c2 f0 f1 f2
            go_wp2_with (first
              | (at_builtin; refine wpList_append_own _ rfl _ _ 33 rfl W0.heap.size 2 i0 (.int .i64 0) 1 8 Tryd.underlying33 hi hz0 hz1 hz2 rfl (by decide) u3 (d.map parseN).length ((d.map parseN).map (encInt .i64)) rfl (HF2.out.2.2.2.1.2.alloc _) ⟨w1.heap.size + 1, 0, none⟩ 1 1 [.int .i64 pn] rfl rfl (one_newsAt (by simp)) (by intro u hu; simp at hu; subst hu; rfl) (by unfold maxLen; omega) (by omega) (by simp; omega) ?_))
            intro v' w3 hown hgrow _
            obtain ⟨d', hd'⟩ := HST.out _ w3 v' _ HF2.out (by trivial) (by simp only [List.length_map, List.map_map]; exact hown) hgrow
            have HN := Lib.hid hd'
            clear hown hgrow hd'
            go_wp2
            go_roundw
            case rel => exact ⟨d', k + 1, k + 1, by go_num, by go_num, by omega, by omega, HN⟩
            case measure => simp [intOf]; omega
          · have t : (pe != 0) = true := by simpa using hpe
            have t2 : (pe == 0) = false := by simpa using hpe
            have HO := Lib.hid (HBAD.out hpe)
            obtain ⟨p, cap, rfl, -, -⟩ := HF1.out.2.2.2.1.reads
            have hz := HF1.out.2.2.2.2.1.lt
            clear hpe
            go_wp2
            have hq := ((HF1.out.2.2.2.2.1.set (.slice none 0 0) (.int .i64 pe) (.int .i64 (d.length : Int))))
            obtain ⟨s0, s1, s2, -, -, -⟩ := hq.on ((Below.refl _ _).alloc (Nat.le_refl _) (.cells #[.int .i64 pn, .int .i64 pe] 28)) hq.lt
            refine bodyPost_ret (v := .agg #[.slice none 0 0, .int .i64 pe, .int .i64 (d.length : Int)]) (by simp [results, Tryd.results14, go_sem, s0, s1, s2]) rfl ⟨HO.out _, ?_⟩
            exact (((HB1.out.setCell (p := ⟨w.heap.size, 0, none⟩) (Nat.le_refl _) _).setCell (p := ⟨w.heap.size, 1, none⟩) (Nat.le_refl _) _).setCell (p := ⟨w.heap.size, 2, none⟩) (Nat.le_refl _) _).alloc (by simp; omega) _
      · have hp : k < s.size := Nat.lt_of_le_of_ne hk fun e => hcut (Or.inl e)
        have hc : s[k] ≠ 32 := fun e => hcut (Or.inr ⟨hp, e⟩)
        have HN := Lib.hid (HF.out.skip (by have := HSZ.out; omega) hc)
        have tc : (((s[k].toNat : Nat) : Int) == 32) = false := by
          rw [beq_eq_false_iff_ne]; intro e; exact hc (UInt8.toNat.inj (by rw [show s[k].toNat = 32 by omega]; rfl))
        have tk : (((k : Nat) : Int) == ((s.size : Nat) : Int)) = false := by rw [beq_eq_false_iff_ne]; omega
        clear hcut hc
        go_wp2
        go_roundw
        case rel => exact ⟨d, f, k + 1, rfl, by go_num, hf1, by omega, HN⟩
        case measure => simp [intOf]; omega
    · have HX : Hid (s.data.toList = [] ∨ ¬ k ≤ s.data.toList.length) := Lib.hid (by
        have := HSZ.out
        by_cases h : k ≤ s.size
        · exact Or.inl (List.length_eq_zero_iff.1 (by omega))
        · exact Or.inr (by omega))
      have HQ := Lib.hid (HF.out.all HX.out)
      obtain ⟨c0, c1, c2, f0, f1, f2⟩ := HF.out.2.2.2.2.1
      obtain ⟨p, cap', rfl, -, -⟩ := HF.out.2.2.2.1.reads
      have HW := Lib.hid HF.out.2.2.2.1.2
      have hN := HF.out.2.2.2.2.2
      have HLM : Hid ((d.map parseN).length = d.length) := Lib.hid (List.length_map _)
      have HTH := Lib.hid HF.out.2.2.2.2.1
      have hrun2 : ¬ k ≤ s.size ∨ (k ≤ s.size ∧ ¬ 0 < s.size) := by omega
      clear hrun
      rcases hrun2 with hrun2 | hrun2
      all_goals
        go_wp2
        obtain ⟨s0, s1, s2, -, -, -⟩ := HTH.out.set (.slice p d.length cap') (.int .i64 0) (.int .i64 0)
        refine bodyPost_ret (v := .agg #[.slice p d.length cap', .int .i64 0, .int .i64 0]) (by simp [results, Tryd.results14, go_sem, s0, s1, s2]) rfl ⟨?_, ?_⟩
        · obtain ⟨p', cap2, he, hrd, -⟩ := owns_readsL rfl (owns_setCell (owns_setCell (owns_setCell HW.out (p := ⟨w.heap.size, 0, none⟩) hN (.slice p d.length cap')) (p := ⟨w.heap.size, 1, none⟩) hN (.int .i64 0)) (p := ⟨w.heap.size, 2, none⟩) hN (.int .i64 0))
          obtain ⟨rfl, -, rfl⟩ := Value.slice.inj he
          obtain ⟨q1, q2, q3⟩ := HQ.out
          refine Or.inl ⟨q1, q2, p, cap', ?_, ?_⟩
          · rw [q3, HLM.out]
          · rw [q3]; exact hrd
        · exact ((hBr.out.setCell (p := ⟨w.heap.size, 0, none⟩) (Nat.le_refl _) _).setCell (p := ⟨w.heap.size, 1, none⟩) (Nat.le_refl _) _).setCell (p := ⟨w.heap.size, 2, none⟩) (Nat.le_refl _) _
end Go.Proofs.YtdianpdjcgcifaaDoor
