/- The keys of a list of floats, rising; the floats, rising; how many unlike ones there are: as far as the library's sort sorts. -/
import Derived.Test.YtbebnhadgbkepaaKeySmall
import Derived.Laws.MakeOwn
namespace Go.Proofs.Ytbebnhadgbkepaa
open Go.RowKit ForderPure FbitPure
open Go.Sort hiding Below
theorem made_get (v : Value) (n i : Nat) (hi : i < n) : (madeCells #[v] n)[i]? = some v := by
  unfold madeCells
  rw [Array.getElem?_map]
  simp [hi, Nat.mod_one]
theorem made_cell (w : World) (v : Value) (n : Nat) (T : TypeId) {i : Nat} (hi : i < n) : (w.alloc (.cells (madeCells #[v] n) T)).cell? ⟨w.heap.size, i, none⟩ = some v := by
  rw [World.cell?_alloc_at _ _ _ _ rfl]
  exact made_get v n i hi
theorem made_frozen (w : World) (c : Array Value) (T : TypeId) (i : Nat) : (w.alloc (.cells c T)).frozen? ⟨w.heap.size, i, none⟩ = false := by
  rw [World.frozen?_alloc_at _ _ _ _ rfl]
theorem info_of {P : Program} {T : TypeId} {z : Value} {a b : Nat} (h : (P.info? T).map (fun i => (i.zero, i.size, i.bytes)) = some (some z, a, b)) : ∃ i, P.info? T = some i ∧ i.zero = some z ∧ i.size = a ∧ i.bytes = b := by
  cases hi : P.info? T with
  | none => rw [hi] at h; cases h
  | some i =>
    rw [hi] at h
    simp only [Option.map_some, Option.some.injEq, Prod.mk.injEq] at h
    exact ⟨i, rfl, h.1, h.2.1, h.2.2⟩
theorem make_keys (n : Nat) (hn : n ≤ 1000) (w : World) :
    (Instr.makeSlice 45 (.int .i64 (n : Int)) (.int .i64 (n : Int))).run Try.prog w = .ok (.slice (some ⟨w.heap.size, 0, none⟩) n n) (w.alloc (.cells (madeCells #[.int .u64 0] n) 42)) := by
  obtain ⟨i, h1, h2, h3, h4⟩ := info_of (P := Try.prog) (T := 42) (z := .int .u64 0) (a := 1) (b := 8) (by kernel_rfl)
  rw [run_make w 45 42 i _ Try.underlying45 h1 h2 .i64 .i64 n n (by omega) (by omega) (by rw [h4]; omega) (by omega)]
  rw [h3]
  simp [Value.cells]
theorem make_floats (n : Nat) (hn : n ≤ 1000) (w : World) :
    (Instr.makeSlice 31 (.int .i64 (n : Int)) (.int .i64 (n : Int))).run Try.prog w = .ok (.slice (some ⟨w.heap.size, 0, none⟩) n n) (w.alloc (.cells (madeCells #[.float .f64 0] n) 23)) := by
  obtain ⟨i, h1, h2, h3, h4⟩ := info_of (P := Try.prog) (T := 23) (z := .float .f64 0) (a := 1) (b := 8) (by kernel_rfl)
  rw [run_make w 31 23 i _ Try.underlying31 h1 h2 .i64 .i64 n n (by omega) (by omega) (by rw [h4]; omega) (by omega)]
  rw [h3]
  simp [Value.cells]
theorem holds_made (w : World) (n : Nat) (T : TypeId) : Holds encU (w.alloc (.cells (madeCells #[.int .u64 0] n) T)) w.heap.size 0 (Array.replicate n 0) := by
  intro j hj
  rw [Array.size_replicate] at hj
  rw [Nat.zero_add]
  refine ⟨?_, made_frozen _ _ _ _⟩
  rw [made_cell _ _ _ _ hj]
  simp [encU, hj]
/-- At the head of a round: the first k keys lie there. -/
def KeyRel (w0 : World) (N : Nat) (l : List Nat) (k : Nat) (w : World) : Prop := k ≤ l.length ∧ ∃ d, RowAt w0 N 0 d w ∧ d.size = l.length ∧ ∀ i, i < k → d[i]! = pk (l.getD i 0)
theorem KeyRel.step {w0 w : World} {N k : Nat} {l : List Nat} (h : KeyRel w0 N l k w) (hN : N < w0.heap.size) (hk : k < l.length) : KeyRel w0 N l (k + 1) (w.setCell ⟨N, 0 + k, none⟩ (.int .u64 (pk (l.getD k 0) : Int))) := by
  obtain ⟨h1, d, h2, h3, h4⟩ := h
  refine ⟨hk, _, h2.set hN (by omega) _, by simpa using h3, fun i hi => ?_⟩
  by_cases hik : i = k
  · subst hik; exact getElem!_set_same d i _ (by omega)
  · rw [getElem!_set_other d k i _ hik]; exact h4 i (by omega)
/-- The keys of l. -/
def keysOf (l : List Nat) : List Nat := l.map pk
/-- The keys of l, rising. -/
def sk (l : List Nat) : List Nat := (keysOf l).mergeSort fun x y => !ltB y x
theorem KeyRel.all {w0 w : World} {N : Nat} {l : List Nat} (h : KeyRel w0 N l l.length w) : RowAt w0 N 0 (keysOf l).toArray w := by
  obtain ⟨h1, d, h2, h3, h4⟩ := h
  have : d = (keysOf l).toArray := by
    apply Array.ext
    · simp [keysOf, h3]
    · intro i hi hi'
      have := h4 i (by omega)
      rw [getElem!_pos d i hi] at this
      rw [this]
      simp [keysOf, List.getD_eq_getElem?_getD, show i < l.length by omega]
  rw [← this]; exact h2
theorem sorted_keys {l : List Nat} {d' : Array Nat} (h1 : PermIn 0 (keysOf l).toArray.size (keysOf l).toArray d') (h2 : SortedIn ltB 0 (keysOf l).toArray.size d') : d' = (sk l).toArray := by
  have := sorted_unique_holds swo_lt lt_total _ _ h1 h2
  unfold sk
  rw [← this]
set_option maxHeartbeats 1000000 in
theorem rising_any (m : Nat) (hS : SortOk m) (hm : m ≤ 1000) (a : Option Addr) (cap : Nat) (l : List Nat) (w : World) (hr : Wide l) (hl : ReadsE encF w.heap.size w a l) (hlen : l.length ≤ m) :
    Calls Try.prog 27 #[.slice a l.length cap] w fun e w' => e = .returned (.slice (some ⟨w.heap.size, 0, none⟩) l.length l.length) ∧ Below w.heap.size w w' ∧ w.heap.size < w'.heap.size ∧ Holds encU w' w.heap.size 0 (sk l).toArray := by
  have HR := Lib.hid hr; have HL := Lib.hid hl
  have HS := Lib.hid hS
  have hmk := make_keys l.length (by omega) w
  clear hr hl hS
  go_enter Try.func27, Try.ntmps27
  go_wp2
  have hB0 := (Below.refl w.heap.size w).alloc (Nat.le_refl _) (.cells (madeCells #[.int .u64 0] l.length) 42)
  have hH0 := holds_made w l.length 42
  have hN : w.heap.size < (w.alloc (.cells (madeCells #[.int .u64 0] l.length) 42)).heap.size := by simp
  generalize hW0 : (w.alloc (.cells (madeCells #[.int .u64 0] l.length) 42)) = W0 at *
  have HB0 := Lib.hid hB0
  have HH0 := Lib.hid hH0
  have HN := Lib.hid hN
  have HL := Lib.hid (HL.out.on hB0)
  clear hB0 hH0 hN hW0 hmk
  generalize hNe : w.heap.size = N at *
  have HE := Lib.hid hNe
  clear hNe
  go_loopw [11] (fun i wr => ∃ k : Nat, i = .int .i64 k ∧ Hid (KeyRel W0 N l k wr)) (fun i _ => l.length - (intOf i).toNat)
  case atStart => exact ⟨0, rfl, ⟨Nat.zero_le _, _, RowAt.start HH0.out, by simp, fun i hi => by omega⟩⟩
  case round =>
    obtain ⟨k, rfl, HK⟩ := hrel
    have hk := HK.out.1
    by_cases hlt : k < l.length
    · obtain ⟨b, off, rfl, hbN, hck0⟩ := HL.out.at hlt
      have hrk := HR.out k
      have hck := (HK.out.2.choose_spec.1.below HN.out).cell (p := ⟨b, off + k, none⟩) hbN
      rw [hck0] at hck
      have hst := HK.out.step HN.out hlt
      obtain ⟨d, hd1, hd2, -⟩ := HK.out.2
      have hcd := hd1.cell HH0.out HN.out (by simpa using hd2) (x := k) (by simpa using hlt)
      have hfd := hd1.frozen HH0.out HN.out (x := k) (by simpa using hlt)
      generalize l.getD k 0 = n at *
      unfold encF at hck
      have HST := Lib.hid hst
      generalize d[k]! = old at *
      rw [Nat.zero_add] at hcd hfd
      clear hst hd1 hd2 hck0
      go_wp2_with (first | (go_at_call 24; refine (keyOf_any _ hrk _).mono ?_; rintro e w' ⟨rfl, rfl⟩))
      go_roundw
      case rel => exact ⟨k + 1, by go_num, by have := HST.out; rwa [Nat.zero_add] at this⟩
      case measure => simp [intOf]; omega
    · have hke : k = l.length := by omega
      subst hke
      have hrow := HK.out.all
      have hsz := hrow.size
      have hlen' : (keysOf l).toArray.size = l.length := by simp [keysOf]
      have hH1 := hrow.holds HH0.out HN.out (by simp [keysOf])
      have hs := HS.out N 0 l.length (keysOf l).toArray wr (by omega) hH1 (Nat.lt_of_lt_of_le HN.out hsz)
      rw [hlen'] at hs
      have hB1 := hrow.below HN.out
      have HH1 := Lib.hid hH1
      have HB1 := Lib.hid hB1
      have HZ := Lib.hid hsz
      have HSS := Lib.hid hs
      clear hs hrow hlen' hH1 hB1 hsz
      go_wp2_with (first | (go_at_call 37; refine HSS.out.mono ?_; rintro e w' ⟨rfl, ht⟩; have HT := Lib.hid ht; clear ht))
      go_ret
      obtain ⟨d', h1, h2, h3⟩ := HT.out
      have hlt := Nat.lt_of_lt_of_le HN.out HZ.out
      have he : d' = (sk l).toArray := sorted_keys (by simpa [keysOf] using h2) (by simpa [keysOf] using h3)
      subst he
      rw [HE.out]
      refine ⟨rfl, HB0.out.trans (HB1.out.trans (h1.below hlt)), Nat.lt_of_lt_of_le hlt h1.size, h1.holds HH1.out hlt (by simp [sk, keysOf])⟩
theorem len_sk (l : List Nat) : (sk l).length = l.length := by simp [sk, keysOf]
theorem sk_wide {l : List Nat} (h : Wide l) : Wide (sk l) := by
  rw [wide_iff] at h ⊢
  intro x hx
  have : x ∈ keysOf l := (List.mergeSort_perm _ _).mem_iff.1 hx
  obtain ⟨b, hb, rfl⟩ := List.mem_map.1 this
  exact pk_le (h b hb)
/-- A float is stored as any one cell is. -/
theorem store_float (x : Nat) (a : Addr) (m : Mode) (w : World) : Sem.run Try.prog (store a (.float .f64 x) m) w = stored Try.prog w a (.float .f64 x) m := run_store _ _ _ _ _ rfl
/-- At the head of a round: the first k floats lie there, and the keys are as they were. -/
def OutF (w0 : World) (N : Nat) (l : List Nat) (k : Nat) (w : World) : Prop :=
  k ≤ l.length ∧ Below N w0 w ∧ N + 1 < w.heap.size ∧ (∀ i, i < l.length → w.cell? ⟨N, 0 + i, none⟩ = some (.float .f64 (if i < k then unk ((sk l).getD i 0) else 0)) ∧ w.frozen? ⟨N, 0 + i, none⟩ = false) ∧ Holds encU w (N + 1) 0 (sk l).toArray
theorem OutF.step {w0 w : World} {N k : Nat} {l : List Nat} (h : OutF w0 N l k w) (hk : k < l.length) : OutF w0 N l (k + 1) (w.setCell ⟨N, 0 + k, none⟩ (.float .f64 (unk ((sk l).getD k 0)))) := by
  obtain ⟨h1, h2, h3, h4, h5⟩ := h
  refine ⟨hk, h2.setCell (Nat.le_refl _) _, by simpa using h3, fun i hi => ⟨?_, by simpa using (h4 i hi).2⟩, fun i hi => ?_⟩
  · by_cases hik : i = k
    · subst hik
      rw [World.cell?_setCell_same _ _ _ (h4 i hi).1]
      simp
    · rw [World.cell?_setCell_other _ ⟨N, 0 + k, none⟩ ⟨N, 0 + i, none⟩ _ (fun e => hik (by simpa using (congrArg Addr.off e).symm)), (h4 i hi).1]
      by_cases h : i < k
      · rw [if_pos h, if_pos (by omega)]
      · rw [if_neg h, if_neg (by omega)]
  · rw [World.cell?_setCell_other _ ⟨N, 0 + k, none⟩ ⟨N + 1, 0 + i, none⟩ _ (by simp)]
    exact ⟨(h5 i hi).1, by simpa using (h5 i hi).2⟩
set_option maxHeartbeats 1000000 in
theorem fsort_any (m : Nat) (hS : SortOk m) (hm : m ≤ 1000) (a : Option Addr) (cap : Nat) (l : List Nat) (w : World) (hr : Wide l) (hl : ReadsE encF w.heap.size w a l) (hlen : l.length ≤ m) :
    Calls Try.prog 12 #[.slice a l.length cap] w fun e w' => e = .returned (.slice (some ⟨w.heap.size, 0, none⟩) l.length l.length) ∧ Below w.heap.size w w' ∧ ReadsE encF w'.heap.size w' (some ⟨w.heap.size, 0, none⟩) ((sk l).map unk) := by
  have HR := Lib.hid hr; have HL := Lib.hid hl
  have HS := Lib.hid hS
  have hmk := make_floats l.length (by omega) w
  clear hr hl hS
  have hB0 := (Below.refl w.heap.size w).alloc (Nat.le_refl _) (.cells (madeCells #[.float .f64 0] l.length) 23)
  have hC0 : ∀ i, i < l.length → (w.alloc (.cells (madeCells #[.float .f64 0] l.length) 23)).cell? ⟨w.heap.size, i, none⟩ = some (.float .f64 0) ∧ (w.alloc (.cells (madeCells #[.float .f64 0] l.length) 23)).frozen? ⟨w.heap.size, i, none⟩ = false :=
    fun i hi => ⟨made_cell _ _ _ _ hi, made_frozen _ _ _ _⟩
  have hN : (w.alloc (.cells (madeCells #[.float .f64 0] l.length) 23)).heap.size = w.heap.size + 1 := by simp
  go_enter Try.func12, Try.ntmps12
  go_wp2_with fail
  generalize hW0 : (w.alloc (.cells (madeCells #[.float .f64 0] l.length) 23)) = W0 at *
  have hri := rising_any m HS.out hm a cap l W0 HR.out ((HL.out.on hB0).mono (by omega)) hlen
  rw [hN] at hri
  refine hri.mono ?_
  rintro e w1 ⟨rfl, hb1, hlt1, hH1⟩
  have hO : OutF W0 w.heap.size l 0 w1 := ⟨Nat.zero_le _, hb1.mono (by omega), hlt1, fun i hi => by
    rw [Nat.zero_add]
    exact ⟨(hb1.cell (p := ⟨w.heap.size, i, none⟩) (by simp)).trans (by simpa using (hC0 i hi).1), (hb1.frozen (p := ⟨w.heap.size, i, none⟩) (by simp)).trans (hC0 i hi).2⟩, hH1⟩
  have HO := Lib.hid hO
  have HB0 := Lib.hid hB0
  clear hri hb1 hlt1 hH1 hO hC0 hN hW0 hmk hB0
  generalize hNe : w.heap.size = N at *
  have HE := Lib.hid hNe
  clear hNe
  go_wp2
  go_loopw [12] (fun i wr => ∃ k : Nat, i = .int .i64 k ∧ Hid (OutF W0 N l k wr)) (fun i _ => l.length - (intOf i).toNat)
  case atStart => exact ⟨0, rfl, HO⟩
  case round =>
    obtain ⟨k, rfl, HK⟩ := hrel
    have hk := HK.out.1
    by_cases hlt : k < l.length
    · have hst := HK.out.step hlt
      have hck := (HK.out.2.2.2.2 k (by simpa [len_sk] using hlt)).1
      have hcd := (HK.out.2.2.2.1 k hlt).1
      have hfd := (HK.out.2.2.2.1 k hlt).2
      rw [Nat.zero_add] at hck hcd hfd
      rw [if_neg (by omega)] at hcd
      have he : (sk l).toArray[k]! = (sk l).getD k 0 := by
        rw [List.getElem!_toArray, List.getElem!_eq_getElem?_getD, List.getD_eq_getElem?_getD]; rfl
      rw [he] at hck
      have hkl : ((sk l).getD k 0 : Int) ≤ 18446744073709551615 := sk_wide HR.out k
      generalize (sk l).getD k 0 = n at *
      unfold encU at hck
      have HST := Lib.hid hst
      have hsf := store_float (unk n)
      clear hst he
      go_wp2_with (first | (go_at_call 28; refine (float_any _ hkl _).mono ?_; rintro e w' ⟨rfl, rfl⟩))
      go_roundw
      case rel => exact ⟨k + 1, by go_num, by have := HST.out; rwa [Nat.zero_add] at this⟩
      case measure => simp [intOf]; omega
    · have hke : k = l.length := by omega
      subst hke
      go_wp2
      go_ret
      rw [HE.out]
      obtain ⟨h1, h2, h3, h4, h5⟩ := HK.out
      refine ⟨rfl, HB0.out.trans h2, Or.inr ⟨N, 0, rfl, by omega, fun i hi => ?_⟩⟩
      have hi' : i < l.length := by simpa [len_sk] using hi
      have := (h4 i hi').1
      rw [if_pos hi'] at this
      rw [this]
      simp [encF, List.getD_eq_getElem?_getD, show i < (sk l).length by rw [len_sk]; exact hi']
end Go.Proofs.Ytbebnhadgbkepaa
