/- Texts that the laws of this seat stand on, part 27. -/
import Derived.Test.YtdbebebhldldmaaGreatDoorPk17
import Derived.Test.YtdbebebhldldmaaGreatDoorPk22
import Derived.Test.YtdbebebhldldmaaGreatDoorPk23
import Derived.Test.YtdbebebhldldmaaGreatDoorPk26
import Derived.Test.YtdbebebhldldmaaGreatDoorPk2
import Derived.Lib.Bytealg
import Derived.Test.YtdbebebhldldmaaGreatDoorPk3
import Derived.Test.YtdbebebhldldmaaGreatDoorPk0
import Derived.Test.YtdbebebhldldmaaGreatDoorPk9
import Derived.Test.YtdbebebhldldmaaGreatDoorPk12
/- The law's awake (layer 18). -/
namespace Go.Proofs.YtdbebebhldldmaaGreatDoor.Gp
open Go.RowKit Go.ChangeShapes EdPure DecPure WordPure GrPure GpPure NtPure
theorem ed_one (w : World) (a b c : Int) : ReadsE (w.alloc (.cells #[.int .i64 a, .int .i64 b, .int .i64 c] 51)).heap.size (w.alloc (.cells #[.int .i64 a, .int .i64 b, .int .i64 c] 51)) (some ⟨w.heap.size, 0, none⟩) [(a, b, c)] := by
  refine Or.inr ⟨w.heap.size, 0, rfl, by simp, fun i hi => ?_⟩
  match i, hi with
  | 0, _ => simp
theorem fl_one (w : World) (b : Nat) (T : TypeId) : ReadsL encF (w.alloc (.cells #[.float .f64 b] T)).heap.size (w.alloc (.cells #[.float .f64 b] T)) (some ⟨w.heap.size, 0, none⟩) [b] := by
  refine Or.inr ⟨w.heap.size, 0, rfl, by simp, fun i hi => ?_⟩
  match i, hi with
  | 0, _ => simp [encF]
theorem one_in (a b c : Nat) (h : a < 10 ∧ b < 10 ∧ c < 10) : InL [((a : Int), (b : Int), (c : Int))] := fun e he => by
  rw [List.mem_singleton.1 he]
  unfold InE In
  simp only
  omega
theorem wide_three : WideL [4613937818241073152] := fun i hi => by
  match i, hi with
  | 0, _ => simp
set_option maxRecDepth 100000 in
set_option maxHeartbeats 800000 in
theorem awake_any (w : World) (hT : Ten w) (hF : Tab64 w) : Calls Tryz.prog 6 #[] w fun e w' => e = .returned (.bool true) ∧ Below w.heap.size w w' := by
  have hb0 : Below w.heap.size w (w.alloc (.cells #[.int .i64 0, .int .i64 1, .int .i64 5] 51)) := (Below.refl _ _).alloc (Nat.le_refl _) _
  have HN := Lib.hid (newU_any 2 (some ⟨w.heap.size, 0, none⟩) 1 [(0, 1, 5)] (one_in 0 1 5 (by decide)) _ (ed_one w 0 1 5))
  unfold NewU Kind at HN
  rw [awk_E] at HN
  simp only at HN
  have HB0 := Lib.hid hb0
  have HT0 := Lib.hid (And.intro (hT.on hb0) (hF.on hb0))
  clear hb0 hT hF
  go_enter Tryz.func6, Tryz.ntmps6
  go_wp2_with fail
  refine HN.out.mono ?_
  rintro e w1 ⟨hb1, p, N, M, rfl, hnt, ⟨-, -, hG⟩, ⟨hz, -⟩ | ⟨-, ⟨g, rfl⟩, hnN, hm⟩⟩
  · exact absurd rfl hz
  obtain rfl : M = [(0, 1, 5)] := Option.some.inj (hm.symm.trans awk_M)
  obtain rfl : N = 2 := by omega
  have HB1 := Lib.hid (HB0.out.trans (hb1.mono HB0.out.size))
  have HT1 := Lib.hid (And.intro (HT0.out.1.on hb1) (HT0.out.2.on hb1))
  have HNT := Lib.hid hnt
  have HG := Lib.hid hG
  clear hb1 hnt hnN hm HN HB0 HT0 hG
  have hbA : Below w1.heap.size w1 (w1.alloc (.cells #[.int .i64 1, .int .i64 0, .int .i64 0] 51)) := (Below.refl _ _).alloc (Nat.le_refl _) _
  have hRA := ed_one w1 1 0 0
  have hszA : (w1.alloc (.cells #[.int .i64 1, .int .i64 0, .int .i64 0] 51)).heap.size = w1.heap.size + 1 := by simp
  have hbB : Below (w1.alloc (.cells #[.int .i64 1, .int .i64 0, .int .i64 0] 51)).heap.size (w1.alloc (.cells #[.int .i64 1, .int .i64 0, .int .i64 0] 51)) ((w1.alloc (.cells #[.int .i64 1, .int .i64 0, .int .i64 0] 51)).alloc (.cells #[.float .f64 4613937818241073152] 38)) := (Below.refl _ _).alloc (Nat.le_refl _) _
  have hRB := fl_one (w1.alloc (.cells #[.int .i64 1, .int .i64 0, .int .i64 0] 51)) 4613937818241073152 38
  rw [hszA] at hRB
  have hbC := hbA.trans (hbB.mono hbA.size)
  have HC := Lib.hid (progFloats_any 2 (some ⟨w1.heap.size, 0, none⟩) 1 [(1, 0, 0)] (some ⟨w1.heap.size + 1, 0, none⟩) 1 [4613937818241073152] (by omega) (by omega) (by simp) (by simp) (one_in 1 0 0 (by decide)) wide_three _ (hRA.over hbB (Nat.le_refl _)) hRB (HT1.out.1.on hbC) (HT1.out.2.on hbC))
  rw [awk_F.1, awk_F.2.1, awk_F.2.2] at HC
  have HB2 := Lib.hid (HB1.out.trans (hbC.mono HB1.out.size))
  have HT2 := Lib.hid (And.intro (HT1.out.1.on hbC) (HT1.out.2.on hbC))
  have HN2 := Lib.hid (HNT.out.over hbC)
  clear hbA hbB hbC hRA hRB hszA HB1 HT1 HNT
  go_wp2_with fail
  generalize (w1.alloc (.cells #[.int .i64 1, .int .i64 0, .int .i64 0] 51)).alloc (.cells #[.float .f64 4613937818241073152] 38) = W2 at *
  refine HC.out.mono ?_
  rintro e w2 ⟨rfl, hb2⟩
  have HB3 := Lib.hid (HB2.out.trans (hb2.mono HB2.out.size))
  have HT3 := Lib.hid (And.intro (HT2.out.1.on hb2) (HT2.out.2.on hb2))
  have HN3 := Lib.hid (HN2.out.over hb2)
  clear hb2 HC HB2 HT2 HN2
  go_wp2_with fail
  refine (progPrint_any (some ⟨g, 0, none⟩) 2 [(0, 1, 5)] (by omega) HG.out (by simp) (by decide) _ HN3.out HT3.out.1).mono ?_
  rintro e w3 ⟨rfl, hb3⟩
  rw [show prP (some ⟨g, 0, none⟩) 2 [(0, 1, 5)] = [103, 114, 97, 112, 104, 32, 50, 32, 49, 10, 48, 32, 49, 32, 53, 10] from awk_T]
  have HB4 := Lib.hid (HB3.out.trans (hb3.mono HB3.out.size))
  clear hb3 HB3
  go_wp2
  go_ret
  exact ⟨rfl, HB4.out⟩
end Go.Proofs.YtdbebebhldldmaaGreatDoor.Gp
/- Plain facts on texts of numbers with one blank between two: parts, put together and cut apart. No program in sight. -/
namespace Go.Proofs.YtdbebebhldldmaaGreatDoor.DecPure
open Go.Lib First

/-- No blank in it. -/
def NoB (l : List UInt8) : Prop := ∀ c ∈ l, c ≠ 32
/-- What stands between blanks. -/
def splitB : List UInt8 → List (List UInt8)
  | [] => [[]]
  | c :: r => if c = 32 then [] :: splitB r else match splitB r with | p :: ps => (c :: p) :: ps | [] => [[c]]
theorem split_ne (l : List UInt8) : splitB l ≠ [] := by
  cases l with
  | nil => simp [splitB]
  | cons c r =>
    unfold splitB
    split
    · simp
    · split <;> simp
theorem split_none {l : List UInt8} (h : NoB l) : splitB l = [l] := by
  induction l with
  | nil => rfl
  | cons c r ih =>
    unfold splitB
    rw [if_neg (h c (by simp)), ih fun x hx => h x (by simp [hx])]
theorem split_hit (p r : List UInt8) (h : NoB p) : splitB (p ++ 32 :: r) = p :: splitB r := by
  induction p with
  | nil => rw [List.nil_append]; conv => lhs; unfold splitB
           rw [if_pos rfl]
  | cons c t ih =>
    rw [List.cons_append]
    conv => lhs; unfold splitB
    rw [if_neg (h c (by simp)), ih fun x hx => h x (by simp [hx])]
def parts (l : List UInt8) : List (List UInt8) := if l = [] then [] else splitB l
theorem parts_nil : parts [] = [] := rfl
theorem parts_some {l : List UInt8} (h : l ≠ []) : parts l = splitB l := if_neg h
/-- Put together with one blank between two. -/
def joinB : List (List UInt8) → List UInt8
  | [] => []
  | [p] => p
  | p :: q :: ps => p ++ 32 :: joinB (q :: ps)
theorem join_cons (p : List UInt8) {ps : List (List UInt8)} (h : ps ≠ []) : joinB (p :: ps) = p ++ 32 :: joinB ps := by
  cases ps with
  | nil => exact absurd rfl h
  | cons q t => rfl
theorem join_snoc (ps : List (List UInt8)) (p : List UInt8) (h : ps ≠ []) : joinB (ps ++ [p]) = joinB ps ++ 32 :: p := by
  induction ps with
  | nil => exact absurd rfl h
  | cons q t ih =>
    by_cases ht : t = []
    · subst ht; rfl
    · rw [List.cons_append, join_cons q (by simp), ih ht, join_cons q ht, List.append_assoc]; rfl
theorem join_split (l : List UInt8) : joinB (splitB l) = l := by
  induction l with
  | nil => rfl
  | cons c r ih =>
    unfold splitB
    by_cases h : c = 32
    · rw [if_pos h, join_cons _ (split_ne r), ih, h]; rfl
    · rw [if_neg h]
      have hne := split_ne r
      revert ih hne
      cases splitB r with
      | nil => intro _ h; exact absurd rfl h
      | cons p ps =>
        intro ih _
        by_cases hp : ps = []
        · subst hp
          show c :: p = c :: r
          rw [show p = r from ih]
        · show joinB ((c :: p) :: ps) = c :: r
          rw [join_cons _ hp, List.cons_append, ← join_cons p hp, ih]
theorem split_join (ps : List (List UInt8)) (h : ps ≠ []) (hn : ∀ p ∈ ps, NoB p) : splitB (joinB ps) = ps := by
  induction ps with
  | nil => exact absurd rfl h
  | cons p t ih =>
    by_cases ht : t = []
    · subst ht; exact split_none (hn p (by simp))
    · rw [join_cons p ht, split_hit p _ (hn p (by simp)), ih ht fun q hq => hn q (by simp [hq])]
theorem join_parts (l : List UInt8) : joinB (parts l) = l := by
  by_cases h : l = []
  · subst h; rfl
  · rw [parts_some h, join_split]
/-- .. of parts that are not empty. -/
theorem join_ne {ps : List (List UInt8)} (h : ps ≠ []) (hn : ∀ p ∈ ps, p ≠ []) : joinB ps ≠ [] := by
  cases ps with
  | nil => exact absurd rfl h
  | cons p t =>
    by_cases ht : t = []
    · subst ht; exact hn p (by simp)
    · rw [join_cons p ht]; simp
theorem parts_join (ps : List (List UInt8)) (hn : ∀ p ∈ ps, NoB p ∧ p ≠ []) : parts (joinB ps) = ps := by
  by_cases h : ps = []
  · subst h; rfl
  · rw [parts_some (join_ne h fun p hp => (hn p hp).2), split_join ps h fun p hp => (hn p hp).1]
/-! ### Numbers -/
theorem itoa_noB (n : Int) : NoB (itoa n) ∧ itoa n ≠ [] := by
  have h := (form_iff _).1 (itoa_form n).1
  have hd := plain_dig h.1
  have hne := plain_ne h.1
  have hb : ∀ c, dig c = true → c ≠ 32 := by
    intro c hc e
    rw [e] at hc
    exact absurd hc (by decide)
  cases hn : negB (itoa n) with
  | true =>
    rw [neg_true hn]
    refine ⟨fun c hc => ?_, by simp⟩
    rw [List.mem_cons] at hc
    rcases hc with hc | hc
    · rw [hc]; decide
    · exact hb c (hd c hc)
  | false =>
    rw [neg_false hn] at hd hne
    exact ⟨fun c hc => hb c (hd c hc), hne⟩
def RngL (l : List Int) : Prop := ∀ n ∈ l, -9223372036854775808 ≤ n ∧ n ≤ 9223372036854775807
/-- The text of numbers. -/
def listT (l : List Int) : List UInt8 := joinB (l.map itoa)
/-- What is read of a text. -/
def readE (s : List UInt8) : Int := errAt parseE (parts s)
def readAt (s : List UInt8) : Int := plcAt parseE (parts s)
def readL (s : List UInt8) : List Int := (parts s).map parseN
theorem read_list (l : List Int) (h : RngL l) : readE (listT l) = 0 ∧ readL (listT l) = l := by
  have hp : parts (listT l) = l.map itoa := parts_join _ fun p hp => by
    obtain ⟨n, -, rfl⟩ := List.mem_map.1 hp
    exact itoa_noB n
  unfold readE readL
  rw [hp]
  refine ⟨(none_at parseE _ fun p hp => ?_).1, ?_⟩
  · obtain ⟨n, hn, rfl⟩ := List.mem_map.1 hp
    exact (parse_itoa n (h n hn)).1
  · rw [List.map_map]
    conv => rhs; rw [← List.map_id l]
    refine List.map_congr_left fun n hn => ?_
    exact (parse_itoa n (h n hn)).2
theorem list_read {s : List UInt8} (h : readE s = 0) : listT (readL s) = s := by
  have ha := all_first parseE _ ((err_iff parseE _).1 h)
  unfold listT readL
  rw [List.map_map]
  have e : (parts s).map (itoa ∘ parseN) = parts s := by
    conv => rhs; rw [← List.map_id (parts s)]
    exact List.map_congr_left fun p hp => itoa_parse (ha p hp)
  rw [e, join_parts]
theorem read_rng (s : List UInt8) : RngL (readL s) := by
  intro n hn
  obtain ⟨p, -, rfl⟩ := List.mem_map.1 hn
  exact parse_rng p
theorem split_len (l : List UInt8) : (splitB l).length ≤ l.length + 1 := by
  induction l with
  | nil => simp [splitB]
  | cons c r ih =>
    unfold splitB
    split
    · simp; omega
    · revert ih
      cases splitB r with
      | nil => intro _; simp
      | cons p ps => intro h; simp at h ⊢; omega
theorem parts_len (l : List UInt8) : (parts l).length ≤ l.length + 1 := by
  by_cases h : l = []
  · subst h; simp [parts]
  · rw [parts_some h]; exact split_len l
/-- How long a text of numbers is. -/
theorem list_len (l : List Int) (h : RngL l) : (listT l).length ≤ 22 * l.length := by
  unfold listT
  induction l with
  | nil => simp [joinB]
  | cons n t ih =>
    have h1 := itoa_length_le n (h n (by simp)).1 (h n (by simp)).2
    have h2 := ih fun m hm => h m (by simp [hm])
    rw [List.map_cons]
    by_cases ht : t.map itoa = []
    · rw [ht]
      show (itoa n).length ≤ _
      simp; omega
    · rw [join_cons _ ht]
      simp at h2 ⊢; omega
/-! ### The first blank -/
theorem blank_cases (l : List UInt8) : (indexByte l 32 = -1 ∧ NoB l) ∨ ∃ i : Nat, indexByte l 32 = i ∧ i < l.length ∧ l = l.take i ++ 32 :: l.drop (i + 1) ∧ NoB (l.take i) := by
  induction l with
  | nil => exact Or.inl ⟨rfl, fun c hc => by simp at hc⟩
  | cons b r ih =>
    by_cases hb : b = 32
    · subst hb
      refine Or.inr ⟨0, ?_, by simp, rfl, fun c hc => by simp at hc⟩
      unfold indexByte; rw [if_pos (by simp)]; rfl
    · have hbe : (b == 32) = false := beq_eq_false_iff_ne.2 hb
      rcases ih with ⟨h1, h2⟩ | ⟨i, h1, h2, h3, h4⟩
      · refine Or.inl ⟨?_, fun c hc => ?_⟩
        · unfold indexByte; rw [hbe, h1]; rfl
        · rw [List.mem_cons] at hc
          rcases hc with hc | hc
          · rw [hc]; exact hb
          · exact h2 c hc
      · refine Or.inr ⟨i + 1, ?_, by simp; omega, ?_, fun c hc => ?_⟩
        · unfold indexByte
          rw [hbe, h1, if_neg (by simp), if_neg (by rw [beq_iff_eq]; omega)]; omega
        · rw [List.take_succ_cons, List.drop_succ_cons, List.cons_append, ← h3]
        · rw [List.take_succ_cons, List.mem_cons] at hc
          rcases hc with hc | hc
          · rw [hc]; exact hb
          · exact h4 c hc
end Go.Proofs.YtdbebebhldldmaaGreatDoor.DecPure
/- Contract for the program's text of numbers. -/
namespace Go.Proofs.YtdbebebhldldmaaGreatDoor
open Go.RowKit Go.ChangeShapes DecPure Str
/-- The text of the first k numbers. -/
def textTo (l : List Int) (k : Nat) : List UInt8 := listT (l.take k)
theorem text_next {l : List Int} {k : Nat} (h : k < l.length) : textTo l (k + 1) = (if k = 0 then [] else textTo l k ++ [32]) ++ Lib.itoa l[k] := by
  unfold textTo listT
  rw [take_snoc l k h, List.map_append]
  by_cases h0 : k = 0
  · subst h0; rfl
  · rw [if_neg h0]
    have hne : (l.take k).map Lib.itoa ≠ [] := by
      intro e
      have e2 := congrArg List.length (List.map_eq_nil_iff.1 e)
      rw [List.length_take] at e2
      simp only [List.length_nil] at e2
      omega
    show joinB ((l.take k).map Lib.itoa ++ [Lib.itoa l[k]]) = _
    rw [join_snoc _ _ hne, List.append_assoc]; rfl
theorem text_len {l : List Int} (h : RngL l) (k : Nat) (hk : k ≤ l.length) : (textTo l k).length ≤ 22 * k := by
  have := list_len (l.take k) fun n hn => h n (List.mem_of_mem_take hn)
  rw [List.length_take] at this
  unfold textTo
  omega
/-- At the head of a round of List. -/
def ListRel (w0 : World) (l : List Int) (k : Nat) (w : World) : Prop :=
  Below w0.heap.size w0 w ∧ Lib.IsBuilder 112 5 w0.heap.size w0.heap.size (Lib.byteCells (textTo l k)) w
set_option maxHeartbeats 2000000 in
theorem list_any (a : Option Addr) (cap : Nat) (l : List Int) (w : World) (hr : RngL l) (hl : ReadsL (encInt .i64) w.heap.size w a l) (hlen : l.length ≤ 100000) (hT : Ten w) :
    Calls Tryz.prog 31 #[.slice a l.length cap] w fun e w' => e = .returned (.string ⟨(listT l).toArray⟩) ∧ Below w.heap.size w w' := by
  have hB0 := (Below.refl w.heap.size w).alloc (Nat.le_refl _) (.cells #[.pointer none, .slice none 0 0] 112)
  have HS : Hid (ListRel w l 0 (w.alloc (.cells #[.pointer none, .slice none 0 0] 112))) := Lib.hid ⟨hB0, Lib.fresh_isBuilder _ _ w⟩
  have HL := Lib.hid hl
  have HR := Lib.hid hr
  have HT := Lib.hid hT
  clear hT hl hr hB0
  go_enter Tryz.func31, Tryz.ntmps31
  go_wp2
  go_loopw [8] (fun i wr => ∃ k : Nat, i = .int .i64 k ∧ k ≤ l.length ∧ Hid (ListRel w l k wr)) (fun i _ => l.length - (intOf i).toNat)
  case atStart => exact ⟨0, rfl, Nat.zero_le _, HS⟩
  case round =>
    obtain ⟨k, rfl, hk, HF⟩ := hrel
    by_cases hlt : k < l.length
    · obtain ⟨b, off, rfl, hbN, hck⟩ := (HL.out.on HF.out.1).at hlt
      unfold encInt at hck
      have hrn := HR.out l[k] (List.getElem_mem hlt)
      have HN := Lib.hid (text_next hlt)
      have HTL := Lib.hid (text_len HR.out k hk)
      have hsz := HF.out.1.size
      have HIL := Lib.hid (Lib.itoa_length_le l[k] hrn.1 hrn.2)
      generalize l[k] = x at *
      by_cases h0 : k = 0
      · have HN' : Hid (textTo l (k + 1) = Lib.itoa x) := Lib.hid (by rw [HN.out, if_pos h0]; rfl)
        have HE : Hid (textTo l k = []) := Lib.hid (by subst h0; rfl)
        have g0 : ¬ (0 : Int) < (k : Int) := by omega
        clear h0
        have HUE : Hid (Lib.IsBuilder 112 5 w.heap.size w.heap.size (Lib.byteCells []) wr) := Lib.hid (by have h := HF.out.2; rw [HE.out] at h; exact h)
        have HLE : Hid (([] : List UInt8).length + (⟨(Lib.itoa x).toArray⟩ : ByteArray).size ≤ 140737488355328) := Lib.hid (by have h1 := HIL.out; show 0 + (Lib.itoa x).toArray.size ≤ _; rw [List.size_toArray]; omega)
        have HBR := Lib.hid HF.out.1
        go_wp2_with fail
        refine (print_any x hrn.1 hrn.2 wr (HT.out.on HBR.out)).mono ?_
        rintro e w1 ⟨rfl, hb1⟩
        have HU1 := Lib.hid (builder_on HUE.out hb1)
        have HB1 := Lib.hid (HBR.out.trans (hb1.mono HBR.out.size))
        have hsz1 := HB1.out.size
        clear hb1
        go_wp2_with fail
        refine (Tryz.Builder_WriteString w.heap.size w.heap.size _ ⟨(Lib.itoa x).toArray⟩ w1 HU1.out (by rw [Lib.byteCells_length]; exact HLE.out) hsz1).mono ?_
        rintro e w2 ⟨rfl, hu2, hb2⟩
        have HW : Hid (ListRel w l (k + 1) w2) := Lib.hid ⟨HB1.out.trans hb2, by
          rw [HN'.out, ← List.nil_append (Lib.itoa x), Lib.byteCells_append]
          exact Or.inr hu2⟩
        clear hu2 hb2
        go_wp2
        go_roundw
        case rel => exact ⟨k + 1, by go_num, hlt, HW⟩
        case measure => simp [intOf]; omega
      · have HN' : Hid (textTo l (k + 1) = (textTo l k ++ [32]) ++ Lib.itoa x) := Lib.hid (by rw [HN.out, if_neg h0])
        have g0 : (0 : Int) < (k : Int) := by omega
        clear h0
        go_wp2_with fail
        refine (Tryz.Builder_WriteString w.heap.size w.heap.size _ ⟨#[32]⟩ wr HF.out.2 (by rw [Lib.byteCells_length]; have h1 := HTL.out; show _ + 1 ≤ _; omega) hsz).mono ?_
        rintro e w0 ⟨rfl, hu0, hb0⟩
        have HBR := Lib.hid (HF.out.1.trans hb0)
        have HUE : Hid (Lib.IsBuilder 112 5 w.heap.size w.heap.size (Lib.byteCells (textTo l k ++ [32])) w0) := Lib.hid (by rw [Lib.byteCells_append]; exact Or.inr hu0)
        have HLE : Hid ((textTo l k ++ [32]).length + (⟨(Lib.itoa x).toArray⟩ : ByteArray).size ≤ 140737488355328) := Lib.hid (by have h1 := HIL.out; have h2 := HTL.out; show _ + (Lib.itoa x).toArray.size ≤ _; rw [List.size_toArray, List.length_append]; simp; omega)
        clear hu0 hb0
        go_wp2_with fail
        refine (print_any x hrn.1 hrn.2 w0 (HT.out.on HBR.out)).mono ?_
        rintro e w1 ⟨rfl, hb1⟩
        have HU1 := Lib.hid (builder_on HUE.out hb1)
        have HB1 := Lib.hid (HBR.out.trans (hb1.mono HBR.out.size))
        have hsz1 := HB1.out.size
        clear hb1
        go_wp2_with fail
        refine (Tryz.Builder_WriteString w.heap.size w.heap.size _ ⟨(Lib.itoa x).toArray⟩ w1 HU1.out (by rw [Lib.byteCells_length]; exact HLE.out) hsz1).mono ?_
        rintro e w2 ⟨rfl, hu2, hb2⟩
        have HW : Hid (ListRel w l (k + 1) w2) := Lib.hid ⟨HB1.out.trans hb2, by
          rw [HN'.out, Lib.byteCells_append]
          exact Or.inr hu2⟩
        clear hu2 hb2
        go_wp2
        go_roundw
        case rel => exact ⟨k + 1, by go_num, hlt, HW⟩
        case measure => simp [intOf]; omega
    · have hke : k = l.length := by omega
      have HE : Hid (textTo l k = listT l) := Lib.hid (by unfold textTo; rw [hke, List.take_length])
      have hsz := HF.out.1.size
      have HU := HF.out.2
      rw [HE.out] at HU
      have HUU := Lib.hid HU
      clear HU
      go_wp2_with fail
      refine (Tryz.Builder_String_any w.heap.size w.heap.size _ wr HUU.out hsz).mono ?_
      rintro e w2 ⟨rfl, hb2⟩
      have HB2 := Lib.hid (HF.out.1.trans hb2)
      clear hb2
      go_wp2
      go_ret
      exact ⟨rfl, HB2.out⟩
end Go.Proofs.YtdbebebhldldmaaGreatDoor
/- The program's text of numbers is the document's: one blank between two. -/
namespace Go.Proofs.YtdbebebhldldmaaGreatDoor.Gp
open Go.RowKit Go.ChangeShapes DecPure GpPure
theorem join_same : ∀ ps : List (List UInt8), joinB ps = WordPure.joinC 32 ps
  | [] => rfl
  | [_] => rfl
  | p :: q :: ps => by
    show p ++ 32 :: joinB (q :: ps) = p ++ 32 :: WordPure.joinC 32 (q :: ps)
    rw [join_same (q :: ps)]
theorem list_nums (l : List Int) : listT l = nums l := join_same _
/-- What the program's List tells. -/
theorem listNums_any (a : Option Addr) (cap : Nat) (l : List Int) (w : World) (hr : ∀ n ∈ l, EdPure.In n) (hl : ReadsL encZ w.heap.size w a l) (hlen : l.length ≤ 100000) (hT : Ten w) :
    Calls Tryz.prog 31 #[.slice a l.length cap] w fun e w' => e = .returned (.string ⟨(nums l).toArray⟩) ∧ Below w.heap.size w w' := by
  have h := list_any a cap l w hr hl hlen hT
  rwa [list_nums] at h
end Go.Proofs.YtdbebebhldldmaaGreatDoor.Gp
