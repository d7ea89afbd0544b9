/- Words that the program puts together to a line are cut apart again, and so are that line's two lines; a text whose words it tells is put together again of them. Conditions: none: every slice of texts, every text (of more than a hundred words, of words or a text of more than two thousand bytes together, the law asks only that the program cuts texts at all). -/
import Derived.Test.YthgalcfnaaboeaaWordLine
import Derived.Test.YthgalcfnaaboeaaWordCut2
import Derived.Test.YthgalcfnaaboeaaWordAwake
import Derived.Test.YthgalcfnaaboeaaRowS
import Derived.Test.YthgalcfnaaboeaaRows
import Derived.WalkKit
import Derived.ProofKit
import Derived.OpenShut
import Derived.ShutString
import Derived.ChangeOld
import Derived.Below
namespace Go.Proofs.Ythgalcfnaaboeaa.wordBack
open Go.ChangeShapes Go.WideShapes Go.ChangeAt Go.RowKit WordPure Str Wd
open Go.ChangeMaps (open_string shut_string)
/-- How long texts are together, of each no more than so much. -/
def capS (m : Nat) : List (List UInt8) → Nat
  | [] => 0
  | p :: r => min p.length m + capS m r
theorem capS_snoc (m : Nat) (l : List (List UInt8)) (p : List UInt8) : capS m (l ++ [p]) = capS m l + min p.length m := by
  induction l with
  | nil => simp [capS]
  | cons q r ih => rw [List.cons_append]; show min q.length m + capS m (r ++ [p]) = min q.length m + capS m r + min p.length m; rw [ih]; omega
theorem capS_le (m : Nat) (l : List (List UInt8)) : capS m l ≤ m * l.length := by
  induction l with
  | nil => simp [capS]
  | cons q r ih =>
    show min q.length m + capS m r ≤ m * (r.length + 1)
    rw [Nat.mul_succ]; omega
theorem capS_lens {m : Nat} {l : List (List UInt8)} (h : capS m l < m) : Lib.lens l = capS m l := by
  induction l with
  | nil => simp [capS, Lib.lens]
  | cons q r ih =>
    have h' : min q.length m + capS m r < m := h
    have h1 := ih (by omega)
    show Lib.lens (q :: r) = min q.length m + capS m r
    unfold Lib.lens at h1 ⊢
    rw [List.map_cons, List.sum_cons, h1]
    omega
theorem capS_next (m : Nat) {l : List (List UInt8)} {k : Nat} (h : k < l.length) : capS m (l.take (k + 1)) = capS m (l.take k) + min l[k].length m := by
  rw [take_succ' l k h, capS_snoc]
/-- A slice of two texts that was just made. -/
theorem two_reads (w : World) (x y : List UInt8) : ReadsL encS (w.alloc (.cells #[.string ⟨x.toArray⟩, .string ⟨y.toArray⟩] 9)).heap.size (w.alloc (.cells #[.string ⟨x.toArray⟩, .string ⟨y.toArray⟩] 9)) (some ⟨w.heap.size, 0, none⟩) [x, y] := by
  refine Or.inr ⟨w.heap.size, 0, rfl, by simp, fun i hi => ?_⟩
  have hi2 : i < 2 := hi
  rw [Nat.zero_add, World.cell?_alloc_at _ _ _ _ rfl]
  match i, hi2 with
  | 0, _ => rfl
  | 1, _ => rfl
theorem lens_le {m : Nat} {l : List (List UInt8)} (h : ∀ p ∈ l, p.length ≤ m) : Lib.lens l ≤ m * l.length := by
  induction l with
  | nil => simp [Lib.lens]
  | cons q r ih =>
    have h1 := ih fun p hp => h p (by simp [hp])
    have h2 := h q (by simp)
    unfold Lib.lens at h1 ⊢
    rw [List.map_cons, List.sum_cons, List.length_cons, Nat.mul_succ]
    omega
theorem wordsL_mem (l : List UInt8) : ∀ p ∈ wordsL l, p.length ≤ l.length := by
  intro p hp
  unfold wordsL at hp
  by_cases h1 : l.isEmpty = true
  · rw [if_pos h1] at hp; simp at hp
  · rw [if_neg h1] at hp
    by_cases h2 : (splitC 32 l).all wordB = true
    · rw [if_pos h2] at hp; exact (split_mem 32 l p hp).1
    · rw [if_neg h2] at hp; simp at hp
/-- What is asked of the words of a text. -/
def Turn (s : ByteArray) (wl : List (List UInt8)) (ok : Bool) (X : ByteArray) : Prop := wl.length ≤ 100000 ∧ (ok = true → X = s) ∧ (ok = false → wl.length = 0)
set_option maxRecDepth 100000 in
set_option maxHeartbeats 4000000 in
theorem walk_back (a : Option Addr) (cap : Nat) (l : List (List UInt8)) (s : ByteArray) (hs : s.size ≤ maxLen) (w : World) (hl : ReadsL encS w.heap.size w a l) (hm : l.length ≤ maxLen) (hcap : l.length ≤ cap) (hle : ∀ p ∈ l, p.length ≤ maxLen) :
    Calls Try.prog 5 #[.slice a l.length cap, .string s] w fun e w' => e = .returned (.bool true) ∧ Below w.heap.size w w' := by
  have HL := Lib.hid hl
  have HLE := Lib.hid hle
  have hm1 : s.size ≤ 9223372036854775807 := by unfold maxLen at hs; omega
  have hm2 : l.length ≤ 9223372036854775807 := by unfold maxLen at hm; omega
  have H0 : Hid (capS 2001 (l.take 0) = 0) := Lib.hid rfl
  clear hl hs hm hle
  go_enter Try.func5, Try.ntmps5
  go_wp2
  go_loopw [5, 6] (fun v i wr => ∃ (n k : Nat), v = .int .i64 n ∧ i = .int .i64 k ∧ k ≤ l.length ∧ k ≤ 101 ∧ n ≤ 2001 * k ∧ wr = w ∧ Hid (n = capS 2001 (l.take k))) (fun _ i _ => l.length - (intOf i).toNat)
  case atStart => exact ⟨0, 0, rfl, rfl, Nat.zero_le _, by omega, by omega, rfl, Lib.hid H0.out.symm⟩
  case round =>
    obtain ⟨n, k, rfl, rfl, hkl, hk1, hn, rfl, HN⟩ := hrel
    by_cases hk : k < l.length ∧ k < 101
    · obtain ⟨hk, hk2⟩ := hk
      obtain ⟨b, off, rfl, hbN, hck⟩ := HL.out.at hk
      unfold encS at hck
      have HSZ : Hid ((⟨l[k].toArray⟩ : ByteArray).size = l[k].length) := Lib.hid (by show l[k].toArray.size = _; rw [List.size_toArray])
      have HLK := Lib.hid (HLE.out l[k] (List.getElem_mem hk))
      have HNX : Hid (∀ m, (m : Nat) = min l[k].length 2001 → n + m = capS 2001 (l.take (k + 1))) := Lib.hid fun m hm => by rw [capS_next 2001 hk, ← HN.out, hm]
      generalize (⟨l[k].toArray⟩ : ByteArray) = x at *
      have hx : x.size ≤ 9223372036854775807 := by have h1 := HLK.out; have h2 := HSZ.out; unfold maxLen at h1; omega
      by_cases hx2 : x.size ≤ 2001
      · have HM : Hid (n + x.size = capS 2001 (l.take (k + 1))) := Lib.hid (HNX.out _ (by have := HSZ.out; omega))
        go_wp2
        go_roundw
        case rel => exact ⟨n + x.size, k + 1, by go_num, by go_num, hk, by omega, by omega, by trivial, HM⟩
        case measure => simp [intOf]; omega
      · have HM : Hid (n + 2001 = capS 2001 (l.take (k + 1))) := Lib.hid (HNX.out _ (by have := HSZ.out; omega))
        go_wp2
        go_roundw
        case rel => exact ⟨n + 2001, k + 1, by go_num, by go_num, hk, by omega, by omega, by trivial, HM⟩
        case measure => simp [intOf]; omega
    · have hk2 : ¬ k < l.length ∨ (k < l.length ∧ ¬ k < 101) := by omega
      by_cases hbig : 100 < l.length ∨ (¬ 100 < l.length ∧ 2000 < n) ∨ (¬ 100 < l.length ∧ ¬ 2000 < n ∧ 2000 < s.size)
      · have HAW := Lib.hid (wordAwake_any wr)
        clear hk
        rcases hk2 with hk2 | hk2 <;> rcases hbig with hbig | hbig | hbig <;> try (exfalso; omega)
        all_goals
          go_wp2_with fail
          refine HAW.out.mono ?_
          rintro e wc ⟨rfl, hbc⟩
          have HBc := Lib.hid hbc
          clear hbc HAW
          go_wp2
          go_ret
          exact ⟨rfl, HBc.out⟩
      · obtain ⟨hl100, hn2000, hs2000⟩ : ¬ 100 < l.length ∧ ¬ 2000 < n ∧ ¬ 2000 < s.size := by omega
        have hke : ¬ k < l.length := by omega
        clear hbig hk hk2
        have hlens : Lib.lens l ≤ 2000 := by
          have h := HN.out
          rw [List.take_of_length_le (by omega)] at h
          rw [capS_lens (m := 2001) (by omega)]; omega
        have hsh : Short 2100 l := by unfold Short; omega
        have hlt : (lineT l).length ≤ 2100 := by
          unfold lineT
          split
          · exact hsh.join
          · simp
        have hws : (wordsL s.data.toList).length ≤ 2001 := by have h1 := wordsL_len s.data.toList; have h2 := Lib.size_eq s; omega
        have hwsh : Short 100000000 (wordsL s.data.toList) := by
          have h1 := lens_le (m := 2000) (l := wordsL s.data.toList) fun p hp => by have h1 := wordsL_mem _ p hp; have h2 := Lib.size_eq s; omega
          unfold Short
          have : 2000 * (wordsL s.data.toList).length ≤ 2000 * 2001 := Nat.mul_le_mul_left _ hws
          omega
        have HT : Hid (Turn s (wordsL s.data.toList) (wordsB s.data.toList) ⟨(lineT (wordsL s.data.toList)).toArray⟩) := Lib.hid ⟨by omega, fun h => by
          rw [(line_good (wordsL_word s.data.toList)).2, line_words h, mk_self], fun h => by rw [words_none h]; rfl⟩
        have HWS := Lib.hid (fun w => words_any s (by omega) w)
        have HLS : Hid (∀ p c w, ReadsL encS w.heap.size w p (wordsL s.data.toList) → (wordsL s.data.toList).length ≤ c → Calls Try.prog 16 #[.slice p (wordsL s.data.toList).length c] w fun e w' => e = .returned (.tuple #[.string ⟨(lineT (wordsL s.data.toList)).toArray⟩, .bool true]) ∧ Below w.heap.size w w') := Lib.hid fun p c w h1 h2 => by
          have h := line_any p c (wordsL s.data.toList) w h1 h2 hwsh
          rw [(line_good (wordsL_word s.data.toList)).1] at h
          exact h
        have HLI : Hid (Calls Try.prog 16 #[.slice a l.length cap] wr fun e w' => e = .returned (.tuple #[.string ⟨(lineT l).toArray⟩, .bool (lineB l)]) ∧ Below wr.heap.size wr w') := Lib.hid (line_any a cap l wr HL.out hcap (by unfold Short at hsh ⊢; omega))
        have HLR : Hid (lineB l = true → (∀ w, Calls Try.prog 8 #[.string ⟨(lineT l).toArray⟩] w fun e w' => PairOut l true e w' ∧ Below w.heap.size w w') ∧
            (∀ w, Calls Try.prog 7 #[.string (⟨(lineT l).toArray⟩ ++ ⟨#[10]⟩ ++ ⟨(lineT l).toArray⟩ ++ ⟨#[10]⟩)] w fun e w' => PairOut [lineT l, lineT l] true e w' ∧ Below w.heap.size w w')) := Lib.hid fun h => by
          have hg := (line_iff l).1 h
          have ht := (line_good hg).2
          have hno : NoC 10 (lineT l) := by rw [ht]; exact join_noC (by decide) fun p hp => ((word_iff p).1 (hg p hp)).2.1
          refine ⟨fun w => ?_, fun w => ?_⟩
          · have h1 := words_any ⟨(lineT l).toArray⟩ (by show (lineT l).toArray.size ≤ _; rw [List.size_toArray]; omega) w
            rw [show (⟨(lineT l).toArray⟩ : ByteArray).data.toList = lineT l from rfl, ht, (words_join hg).1, (words_join hg).2] at h1
            rw [ht]; exact h1
          · have e1 : (⟨(lineT l).toArray⟩ ++ ⟨#[10]⟩ ++ ⟨(lineT l).toArray⟩ ++ ⟨#[10]⟩ : ByteArray) = ⟨(lineT l ++ 10 :: (lineT l ++ 10 :: [])).toArray⟩ := by
              rw [show (⟨#[10]⟩ : ByteArray) = ⟨[10].toArray⟩ from rfl, cat_bytes, cat_bytes, cat_bytes]
              simp
            rw [e1]
            have e2 := lines_two hno
            have e3 : (lineT l ++ 10 :: (lineT l ++ 10 :: [])).length ≤ 100000000 := by simp; omega
            generalize lineT l ++ 10 :: (lineT l ++ 10 :: []) = q at *
            have h1 := lines_any ⟨q.toArray⟩ (by show q.toArray.size ≤ _; rw [List.size_toArray]; exact e3) w
            rw [show (⟨q.toArray⟩ : ByteArray).data.toList = q from rfl, e2.1, e2.2] at h1
            exact h1
        have HTW : Hid (∀ w : World, ReadsL encS (w.alloc (.cells #[.string ⟨(lineT l).toArray⟩, .string ⟨(lineT l).toArray⟩] 9)).heap.size (w.alloc (.cells #[.string ⟨(lineT l).toArray⟩, .string ⟨(lineT l).toArray⟩] 9)) (some ⟨w.heap.size, 0, none⟩) [lineT l, lineT l]) := Lib.hid fun w => two_reads w _ _
        have hTS : (⟨(lineT l).toArray⟩ : ByteArray).size ≤ 4000 := by show (lineT l).toArray.size ≤ _; rw [List.size_toArray]; omega
        clear hws hwsh hlens hsh hlt HN H0
        unfold PairOut at HWS HLR
        generalize wordsL s.data.toList = wl at *
        generalize wordsB s.data.toList = ok at *
        generalize (⟨(lineT wl).toArray⟩ : ByteArray) = X at *
        generalize (⟨(lineT l).toArray⟩ : ByteArray) = Y at *
        generalize lineT l = lt at *
        generalize lineB l = lb at *
        go_wp2_with fail
        refine HLI.out.mono ?_
        rintro e w1 ⟨rfl, hb1⟩
        have HB1 := Lib.hid hb1
        have HL1 := Lib.hid (HL.out.over hb1 (Nat.le_refl _))
        clear hb1 HLI
        cases lb with
        | true =>
          obtain ⟨hA, hB⟩ := HLR.out rfl
          have HA := Lib.hid hA
          have HB := Lib.hid hB
          clear hA hB HLR
          go_wp2_with fail
          refine (HA.out w1).mono ?_
          rintro e w2 ⟨⟨p2, c2, rfl, hr2, -⟩, hb2⟩
          have HB2 := Lib.hid (HB1.out.trans (hb2.mono HB1.out.size))
          have HL2 := Lib.hid (HL1.out.over hb2 (Nat.le_refl _))
          have HR2 := Lib.hid hr2
          clear hb2 hr2
          go_wp2_with fail
          refine (HB.out w2).mono ?_
          rintro e w3 ⟨⟨p3, c3, rfl, hr3, -⟩, hb3⟩
          have HB3 := Lib.hid (HB2.out.trans (hb3.mono HB2.out.size))
          have HL3 := Lib.hid (HL2.out.over hb3 (Nat.le_refl _))
          have HR23 := Lib.hid (HR2.out.over hb3 (Nat.le_refl _))
          have HR3 := Lib.hid hr3
          clear hb3 hr3
          go_wp2_with fail
          refine (sameS_any p2 a c2 cap l w3 HR23.out HL3.out (by omega)).mono ?_
          rintro e w4 ⟨rfl, hb4⟩
          have HB4 := Lib.hid (HB3.out.trans (hb4.mono HB3.out.size))
          have hb5 := (Below.refl w4.heap.size w4).alloc (Nat.le_refl _) (.cells #[.string Y, .string Y] 9)
          have HB5 := Lib.hid (HB4.out.trans (hb5.mono HB4.out.size))
          have HR35 := Lib.hid ((HR3.out.over hb4 (Nat.le_refl _)).over hb5 (Nat.le_refl _))
          clear hb4 hb5
          go_wp2_with fail
          refine (sameS_any p3 (some ⟨w4.heap.size, 0, none⟩) c3 2 [lt, lt] _ HR35.out (HTW.out w4) (by show 2 ≤ _; omega)).mono ?_
          rintro e w6 ⟨rfl, hb6⟩
          have HB6 := Lib.hid (HB5.out.trans (hb6.mono HB5.out.size))
          clear hb6
          go_wp2_with fail
          refine (HWS.out w6).mono ?_
          rintro e wa ⟨⟨pa, ca, rfl, hra, hca⟩, hba⟩
          have HBa := Lib.hid (HB6.out.trans (hba.mono HB6.out.size))
          have HRa := Lib.hid hra
          have HCa := Lib.hid hca
          clear hba hra hca
          go_wp2_with fail
          refine (HLS.out pa ca wa HRa.out HCa.out).mono ?_
          rintro e wb ⟨rfl, hbb⟩
          have HBb := Lib.hid (HBa.out.trans (hbb.mono HBa.out.size))
          have HAW := Lib.hid (wordAwake_any wb)
          clear hbb
          cases ok with
          | true =>
            obtain rfl : X = s := HT.out.2.1 rfl
            go_wp2_with fail
            refine HAW.out.mono ?_
            rintro e wc ⟨rfl, hbc⟩
            have HBc := Lib.hid (HBb.out.trans (hbc.mono HBb.out.size))
            clear hbc HAW
            go_wp2
            go_ret
            exact ⟨rfl, HBc.out⟩
          | false =>
            have t : (((wl.length : Nat) : Int) == 0) = true := by rw [HT.out.2.2 rfl]; rfl
            go_wp2_with fail
            refine HAW.out.mono ?_
            rintro e wc ⟨rfl, hbc⟩
            have HBc := Lib.hid (HBb.out.trans (hbc.mono HBb.out.size))
            clear hbc HAW
            go_wp2
            go_ret
            exact ⟨rfl, HBc.out⟩
        | false =>
          clear HLR
          go_wp2_with fail
          refine (HWS.out w1).mono ?_
          rintro e wa ⟨⟨pa, ca, rfl, hra, hca⟩, hba⟩
          have HBa := Lib.hid (HB1.out.trans (hba.mono HB1.out.size))
          have HRa := Lib.hid hra
          have HCa := Lib.hid hca
          clear hba hra hca
          go_wp2_with fail
          refine (HLS.out pa ca wa HRa.out HCa.out).mono ?_
          rintro e wb ⟨rfl, hbb⟩
          have HBb := Lib.hid (HBa.out.trans (hbb.mono HBa.out.size))
          have HAW := Lib.hid (wordAwake_any wb)
          clear hbb
          cases ok with
          | true =>
            obtain rfl : X = s := HT.out.2.1 rfl
            go_wp2_with fail
            refine HAW.out.mono ?_
            rintro e wc ⟨rfl, hbc⟩
            have HBc := Lib.hid (HBb.out.trans (hbc.mono HBb.out.size))
            clear hbc HAW
            go_wp2
            go_ret
            exact ⟨rfl, HBc.out⟩
          | false =>
            have t : (((wl.length : Nat) : Int) == 0) = true := by rw [HT.out.2.2 rfl]; rfl
            go_wp2_with fail
            refine HAW.out.mono ?_
            rintro e wc ⟨rfl, hbc⟩
            have HBc := Lib.hid (HBb.out.trans (hbc.mono HBb.out.size))
            clear hbc HAW
            go_wp2
            go_ret
            exact ⟨rfl, HBc.out⟩
theorem own : ownKnob Try.prog.godebug = none := by kernel_rfl
theorem laidOut : laidOutB Try.prog = true := by kernel_rfl
theorem walk (W : World) (a0 : Option Addr) (len0 cap0 : Nat) (z0 : List ByteArray) (w0 : IsRowS W a0 len0 cap0 z0) (a1 : ByteArray) (w1 : a1.size ≤ maxLen) :
    Calls Try.prog 5 #[.slice a0 len0 cap0, .string a1] W fun e w' => e = .returned (.bool true) ∧ Below W.heap.size W w' := by
  obtain ⟨l, rfl, hl, hm, hc, hle, -⟩ := rowS_reads w0
  exact walk_back a0 cap0 l a1 w1 W hl hm hc hle
set_option maxRecDepth 100000 in
theorem lifted (os : Os) (started : os.Started) (H : Type) (enc : TypeId × Value → H) :
    ReturnsInHanded {} Try.checked os 5 .any (Rows.wordBackSpec.pre6 enc Try.prog Try.f5 Rows.wordBackRow.domain false) (Rows.wordBackSpec.post enc Try.prog Try.f5 false true false false) := by
  refine returnsInHanded_of_change (C := Try.checked) own started (by kernel_rfl) Try.func5
    (ChangeSpec.witness6 (enc := enc) (C := Try.checked) false ⟨#[], #[.slice none 0 0, .string ⟨#[]⟩], []⟩ 8 (by kernel_rfl) (by kernel_rfl) (by kernel_rfl) (by kernel_rfl)) ?_
  intro W base args ds gs before hval0 hW hcnd _
  have hval : ∀ (j : Nat) t v, Try.f5.params[j]? = some t → args[j]? = some v → Value.okWide Try.prog W .any base t v := hval0
  have hW' := hW
  obtain ⟨p, q, hA0, hV, rfl, hfz, hnd⟩ := hW
  have hA : DataW.TrodAll enc Try.prog W 0 (fun _ => true) true Try.f5.params.toList args.toList ds p := hA0
  rw [Try.params5] at hA hval
  obtain ⟨v0, vs0, d0, ds0, p0, q0, hargs, rfl, rfl, h0, r0⟩ := trodAll_cons hA
  obtain ⟨v1, vs1, d1, ds1, p1, q1, rfl, rfl, rfl, h1, r1⟩ := trodAll_cons r0
  obtain ⟨rfl, rfl, rfl⟩ := trodAll_nil r1
  obtain rfl : args = #[v0, v1] := by cases args; simp_all
  obtain ⟨rfl, rfl⟩ := trodVars_none hV
  obtain ⟨a0, len0, cap0, rfl⟩ := okWide_slice Try.underlying22 (hval 0 22 v0 rfl rfl)
  have k0 := h0
  have lt0 : ∀ x ∈ p0, x.block < W.heap.size := by obtain ⟨m, hm⟩ := k0; exact DataW.trod_lt m _ _ _ hm
  obtain ⟨z0, w0⟩ : ∃ zs, IsRowS W a0 len0 cap0 zs := by
    obtain ⟨fuel, hf⟩ := h0
    rcases open_strings Try.underlying22 Try.underlying9 (by kernel_rfl) hf with ⟨hcs, _⟩ | ⟨x, l, c, zs, hcs, _, hl, hm, hz, _, hcell, hsz⟩
    · simp [Value.cells] at hcs
      obtain ⟨rfl, rfl, rfl⟩ := hcs
      exact ⟨[], .inl ⟨rfl, rfl, rfl, rfl⟩⟩
    · simp [Value.cells] at hcs
      obtain ⟨rfl, rfl, rfl⟩ := hcs
      exact ⟨zs, .inr ⟨_, rfl, hl, hm, by simpa using hz, hcell, hsz⟩⟩
  obtain ⟨a1, rfl, rfl, rfl, w1⟩ := open_string Try.underlying9 (hval 1 9 v1 rfl rfl) h1
  clear hA0 hval0
  refine (walk W a0 len0 cap0 z0 w0 a1 w1).mono fun e W' ⟨he, bel⟩ => ?_
  subst he
  exact ⟨_, rfl, _, _, _, [], _, [], hW', trodAll_mk1 (shut_bool Try.underlying4 _), (trodAll_cons_mk (Below.trod laidOut (by kernel_rfl) (of_decide_eq_true (by kernel_rfl)) k0 bel lt0) (trodAll_cons_mk (shut_string Try.underlying9 w1) trodAll_mk0)), rfl, bel.frame _, fun h => by cases h⟩
theorem over : Rows.wordBackRow.holds Try.pinned (OpenSpec.ofChange Rows.wordBackSpec) :=
  OpenClaim.holds_of_wide 5 Try.f5 rfl rfl rfl rfl rfl rfl rfl ⟨rfl, rfl, rfl, rfl, rfl⟩ rfl rfl rfl rfl rfl (by kernel_rfl) Try.func5 (by kernel_rfl)
    (of_decide_eq_true (by kernel_rfl)) (by unfold Func.isWrapper; first | (rw [if_pos (by decide +kernel)]; kernel_rfl) | (rw [if_neg (by decide +kernel)]; exact ⟨rfl, rfl⟩))
    (fun os started H enc _ => lifted os started H enc)
/-- The statement. -/
theorem proved : Rows.WordBackSaid := over
#print axioms proved
end Go.Proofs.Ythgalcfnaaboeaa.wordBack
