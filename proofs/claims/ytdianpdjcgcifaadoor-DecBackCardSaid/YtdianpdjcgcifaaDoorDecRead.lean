/- A contract for the numbers of a text, as the program reads them. -/
import Derived.Test.YtdianpdjcgcifaaDoorDecCut
namespace Go.Proofs.YtdianpdjcgcifaaDoor
open Go.RowKit Go.ChangeShapes DecPure First
theorem infoI64 : (Tryd.prog.info? 2).map (fun i => (i.zero, i.size, i.bytes)) = some (some (.int .i64 0), 1, 8) := by kernel_rfl
/-- What is left to cut. -/
def restB (m : Bool) (S : List UInt8) : List (List UInt8) := if m then splitB S else []
/-- What one cut does. -/
def OneCut (S P R : List UInt8) (m : Bool) : Prop := NoB P ∧ (if m then S = P ++ 32 :: R else S = P ∧ R = [])
theorem one_rest {S P R : List UInt8} {m : Bool} (h : OneCut S P R m) : splitB S = P :: restB m R := by
  obtain ⟨h1, h2⟩ := h
  cases m with
  | true =>
    have h2 : S = P ++ 32 :: R := by simpa using h2
    rw [h2, split_hit P R h1]; rfl
  | false =>
    have h2 : S = P ∧ R = [] := by simpa using h2
    rw [h2.1, split_none h1]; rfl
theorem one_len {S P R : List UInt8} {m : Bool} (h : OneCut S P R m) : R.length + (if m then 1 else 0) < S.length + 1 ∧ P.length ≤ S.length := by
  obtain ⟨h1, h2⟩ := h
  cases m with
  | true =>
    have h2 : S = P ++ 32 :: R := by simpa using h2
    rw [h2]; simp; omega
  | false =>
    have h2 : S = P ∧ R = [] := by simpa using h2
    rw [h2.1, h2.2]; simp
theorem cut_one {s : ByteArray} {e : Ending} (h : CutOut s e) : ∃ (P R : ByteArray) (m : Bool), OneCut s.data.toList P.data.toList R.data.toList m ∧ e = .returned (.tuple #[.string P, .string R, .bool m]) := by
  rcases h with ⟨h1, h2⟩ | ⟨P, R, h1, h2, h3⟩
  · exact ⟨s, ⟨#[]⟩, false, ⟨h1, by simp⟩, h2⟩
  · exact ⟨P, R, true, ⟨h2, by simpa using h1⟩, h3⟩
/-- How much is left. -/
def leftV (s m : Value) : Nat := match s, m with | .string S, .bool b => S.size + (if b then 1 else 0) | _, _ => 0
theorem left_at (S : ByteArray) (b : Bool) : leftV (.string S) (.bool b) = S.size + (if b then 1 else 0) := rfl
/-- At the head of a round of Read. -/
def ReadRel (w0 : World) (l S : List UInt8) (m : Bool) (d : List (List UInt8)) (v : Value) (w : World) : Prop :=
  parts l = d ++ restB m S ∧ (∀ p ∈ d, parseE p = 0) ∧ d.length + S.length ≤ l.length + (if m then 0 else 1) ∧ GrowRel (encInt .i64) 2 w0 (d.map parseN) v w
theorem ReadRel.on {w0 w w' : World} {l S : List UInt8} {m : Bool} {d : List (List UInt8)} {v : Value} (h : ReadRel w0 l S m d v w) (hb : Below w.heap.size w w') : ReadRel w0 l S m d v w' :=
  ⟨h.1, h.2.1, h.2.2.1, h.2.2.2.on hb⟩
theorem ReadRel.step {w0 w w' : World} {l S P R : List UInt8} {m : Bool} {d : List (List UInt8)} {v v' : Value} {o : Obj} (h : ReadRel w0 l S true d v w) (hc : OneCut S P R m) (hp : parseE P = 0)
    (h1 : w'.ownsRow w0.heap.size 2 1 v' ((d.map parseN).length + 1) ((d.map parseN).map (encInt .i64) ++ [encInt .i64 (parseN P)])) (hg : (w.alloc o).grownBy w' v.ownBlock) : ReadRel w0 l R m (d ++ [P]) v' w' := by
  obtain ⟨g1, g2, g3, g4⟩ := h
  refine ⟨?_, fun p hq => ?_, ?_, ?_⟩
  · rw [g1, show restB true S = splitB S from rfl, one_rest hc, List.append_assoc]; rfl
  · rw [List.mem_append] at hq
    rcases hq with hq | hq
    · exact g2 p hq
    · rw [List.mem_singleton.1 hq]; exact hp
  · have := one_len hc
    rw [List.length_append, List.length_singleton]
    cases m with
    | true => have := this.1; simp at this g3 ⊢; omega
    | false =>
      have h2 : S = P ∧ R = [] := by simpa using hc.2
      rw [h2.2]; simp at g3 ⊢; omega
  · rw [List.map_append]
    exact g4.step (parseN P) h1 hg
def ReadOut (l : List UInt8) (e : Ending) (w' : World) : Prop :=
  (readE l = 0 ∧ readAt l = 0 ∧ ∃ p cap, e = .returned (.tuple #[.slice p (readL l).length cap, .int .i64 0, .int .i64 0]) ∧ ReadsL (encInt .i64) w'.heap.size w' p (readL l)) ∨
  (readE l ≠ 0 ∧ e = .returned (.tuple #[.slice none 0 0, .int .i64 (readE l), .int .i64 (readAt l)]))
theorem ReadRel.out {w0 w : World} {l S : List UInt8} {d : List (List UInt8)} {v : Value} (h : ReadRel w0 l S false d v w) : ReadOut l (.returned (.tuple #[v, .int .i64 0, .int .i64 0])) w := by
  obtain ⟨g1, g2, g3, g4⟩ := h
  have hd : parts l = d := by rw [g1]; exact List.append_nil d
  have hn := none_at parseE d g2
  rw [← hd] at hn
  obtain ⟨p, cap, hv, hr, -⟩ := g4.reads
  refine Or.inl ⟨hn.1, hn.2, p, cap, ?_, ?_⟩
  · rw [hv]; unfold readL; rw [hd]
  · unfold readL; rw [hd]; exact hr
theorem ReadRel.bad {w0 w : World} {l S P R : List UInt8} {m : Bool} {d : List (List UInt8)} {v : Value} (h : ReadRel w0 l S true d v w) (hc : OneCut S P R m) (hp : parseE P ≠ 0) (w' : World) :
    ReadOut l (.returned (.tuple #[.slice none 0 0, .int .i64 (parseE P), .int .i64 (d.length : Int)])) w' := by
  obtain ⟨g1, g2, g3, g4⟩ := h
  have e : parts l = d ++ P :: restB m R := by rw [g1, show restB true S = splitB S from rfl, one_rest hc]
  have ha := first_at parseE d (restB m R) P g2 hp
  rw [← e] at ha
  exact Or.inr ⟨by unfold readE; rw [ha.1]; exact hp, by unfold readE readAt; rw [ha.1, ha.2]⟩
theorem read_start (w : World) (s : ByteArray) : ReadRel w s.data.toList s.data.toList (!s.toList.isEmpty) [] (.slice none 0 0) w := by
  refine ⟨?_, fun p hp => by simp at hp, by split <;> simp, GrowRel.start _ _ _⟩
  rw [Lib.toList_data]
  unfold parts restB
  cases hs : s.data.toList with
  | nil => rfl
  | cons c r => rfl
set_option maxHeartbeats 2000000 in
theorem read_any (s : ByteArray) (hs : s.size ≤ 1000000) (w : World) :
    Calls Tryd.prog 13 #[.string s] w fun e w' => ReadOut s.data.toList e w' ∧ Below w.heap.size w w' := by
  obtain ⟨i0, hi, hz0, hz1, hz2⟩ := info_parts infoI64
  have HS := Lib.hid (read_start w s)
  have HL : Hid (s.data.toList.length ≤ 1000000) := Lib.hid (by rw [← Lib.size_eq]; exact hs)
  go_enter Tryd.func13, Tryd.ntmps13
  go_wp2
  go_loopw [0, 5, 6] (fun t v m wr => ∃ (S : ByteArray) (b : Bool) (d : List (List UInt8)), t = .string S ∧ m = .bool b ∧ Hid (ReadRel w s.data.toList S.data.toList b d v wr)) (fun t _ m _ => leftV t m)
  case atStart => exact ⟨s, _, [], rfl, rfl, HS⟩
  case round =>
    obtain ⟨S, b, d, rfl, rfl, HF⟩ := hrel
    cases b with
    | true =>
      have hSS : S.size ≤ 1000001 := by have h1 := HF.out.2.2.1; have h2 := HL.out; have h3 := Lib.size_eq S; simp only [if_true] at h1; omega
      go_wp2_with fail
      refine (cut_any S (by omega) wr).mono ?_
      rintro e w1 ⟨hcut, hb1⟩
      obtain ⟨P, R, m, hc, he⟩ := cut_one hcut
      clear hcut
      subst he
      have HC := Lib.hid hc
      have HF1 := Lib.hid (HF.out.on hb1)
      clear hc hb1
      go_wp2_with fail
      refine (parse_any P w1).mono ?_
      rintro e w2 ⟨rfl, hb2⟩
      have HF2 := Lib.hid (HF1.out.on hb2)
      clear hb2
      by_cases hp : parseE P.data.toList = 0
      · have HST : Hid (∀ w3 v' o, w3.ownsRow w.heap.size 2 1 v' ((d.map parseN).length + 1) ((d.map parseN).map (encInt .i64) ++ [.int .i64 (parseN P.data.toList)]) → (w2.alloc o).grownBy w3 u5.ownBlock → ReadRel w s.data.toList R.data.toList m (d ++ [P.data.toList]) v' w3) :=
          Lib.hid fun w3 v' o h1 h2 => HF2.out.step HC.out hp h1 h2
        have HLT : Hid (R.size + (if m then 1 else 0) < S.size + 1) := Lib.hid (by have h := (one_len HC.out).1; rw [Lib.size_eq, Lib.size_eq S]; exact h)
        have hlen : (d.map parseN).length ≤ 1000001 := by rw [List.length_map]; have h1 := HF.out.2.2.1; have h2 := HL.out; simp only [if_true] at h1; omega
        have hsz2 := HF2.out.2.2.2.1.size
        rw [hp]
        clear hp
        generalize parseN P.data.toList = x at *
        go_wp2_with (first
          | (at_builtin; refine wpList_append_own _ rfl _ _ 33 rfl w.heap.size 2 i0 (.int .i64 0) 1 8 Tryd.underlying33 hi hz0 hz1 hz2 rfl (by decide) u5 (d.map parseN).length ((d.map parseN).map (encInt .i64)) rfl (HF2.out.2.2.2.2.alloc _) ⟨w2.heap.size, 0, none⟩ 1 1 [.int .i64 x] rfl rfl one_news (by intro u hu; simp at hu; subst hu; rfl) (by unfold maxLen; omega) (by omega) (by simp; omega) ?_))
        intro v' w3 hown hgrow _
        have HN := Lib.hid (HST.out w3 v' _ (by simp only [List.length_map, List.map_map]; exact hown) hgrow)
        clear hown hgrow
        go_wp2
        go_roundw
        case rel => exact ⟨R, m, _, rfl, rfl, HN⟩
        case measure => rw [left_at, left_at]; have := HLT.out; simpa using this
      · have t : (parseE P.data.toList != 0) = true := by simpa using hp
        have t2 : (parseE P.data.toList == 0) = false := by simpa using hp
        have HBAD := Lib.hid (HF2.out.bad HC.out hp w2)
        have HBW := Lib.hid HF2.out.2.2.2.1
        obtain ⟨p, cap, rfl, -, -⟩ := HF2.out.2.2.2.reads
        clear hp
        go_wp2
        go_ret3
        exact ⟨HBAD.out, HBW.out⟩
    | false =>
      have HO := Lib.hid HF.out.out
      have HBW := Lib.hid HF.out.2.2.2.1
      go_wp2
      go_ret3
      exact ⟨HO.out, HBW.out⟩
end Go.Proofs.YtdianpdjcgcifaaDoor
