/- Edges put in order by the library's SortFunc and Cmp. -/
import Derived.Test.YtbankocbncpepaaEdCode
import Derived.Shelf.SlSortCmp.NoneTotal
namespace Go.Proofs.Ytbankocbncpepaa
open Go.RowKit Go.ChangeShapes EdPure
open Go.Sort hiding Below
theorem ltOf_cmp (x y : Ed) : ltOf cmpE x y = decide (cmpE x y < 0) := rfl
theorem ltOf_yes {x y : Ed} : ltOf cmpE x y = true ↔ ltE x y := by rw [ltOf_cmp, decide_eq_true_eq]; exact cmp_lt
theorem ltOf_no {x y : Ed} : ltOf cmpE x y = false ↔ ¬ ltE x y := by rw [← ltOf_yes]; simp
theorem swoE : SWO (ltOf cmpE) where
  irrefl x := ltOf_no.2 ltE_irrefl
  trans x y z h1 h2 := ltOf_yes.2 (ltE_trans (ltOf_yes.1 h1) (ltOf_yes.1 h2))
  ntrans x y z h1 h2 := by
    rw [ltOf_no] at *
    unfold ltE at *
    omega
theorem totE (x y : Ed) (h1 : ltOf cmpE x y = false) (h2 : ltOf cmpE y x = false) : x = y := by
  rw [ltOf_no] at h1 h2
  rcases cmp_cases x y with ⟨-, h⟩ | ⟨-, h⟩ | ⟨-, h⟩
  · exact (h1 h).elim
  · exact (h2 h).elim
  · exact h
def sortE (G : List Ed) : List Ed := G.mergeSort fun x y => !ltOf cmpE y x
theorem sortE_unique {G M : List Ed} (hp : G.Perm M) (hs : M.Pairwise ltE) : sortE G = M := by
  refine List.Perm.eq_of_pairwise (le := fun x y => ltOf cmpE y x = false) (fun a b _ _ h1 h2 => totE a b h2 h1) ?_ (hs.imp fun h => ltOf_no.2 fun h2 => ltE_asymm h h2) ((List.mergeSort_perm _ _).trans hp)
  have := List.pairwise_mergeSort (le := fun x y : Ed => !ltOf cmpE y x) (fun a b c h1 h2 => by
    simp only [Bool.not_eq_true'] at *
    rw [ltOf_no] at *
    unfold ltE at *
    omega) (fun a b => by
    cases h1 : ltOf cmpE b a
    · rfl
    · have : ltOf cmpE a b = false := ltOf_no.2 fun h2 => ltE_asymm h2 (ltOf_yes.1 h1)
      rw [this]; rfl) G
  exact this.imp fun h => by simpa using h
theorem lt2_ltE {a b : Ed} (h : lt2 a b) : ltE a b := by unfold lt2 at h; unfold ltE; omega
/-- What the sort leaves alone. -/
theorem sortWorld_below {α : Type} [Inhabited α] (enc : α → Value) (w : World) (blk off n : Nat) (d : Array α) (os : Array Obj) (hb : blk < w.heap.size) : Below blk w (sortWorld enc w blk off n d os) := by
  refine ⟨rfl, rfl, rfl, by simp [sortWorld], fun k hk => ?_⟩
  unfold sortWorld
  rw [heap_grow_old _ _ (by simp; omega)]
  simp only [putRow, mapBlock, Array.getElem?_modify, heap_ahead]
  rw [if_neg (by omega)]
theorem get_bang {α : Type} [Inhabited α] {l : List α} {i : Nat} (hi : i < l.length) : l.toArray[i]! = l[i] := by
  rw [List.getElem!_toArray, List.getElem!_eq_getElem?_getD, List.getElem?_eq_getElem hi]; rfl
theorem bang_of {l : List Value} {t : Nat} {v : Value} (h : l[t]? = some v) : l.toArray[t]! = v := by
  rw [List.getElem!_toArray, List.getElem!_eq_getElem?_getD, h]; rfl
theorem flatK_flatE (G : List Ed) : flatK cellE 3 G.toArray = (flatE G).toArray := by
  refine ext_get! (by rw [size_flatK, List.size_toArray, List.size_toArray, flatE_len]) fun t ht => ?_
  rw [size_flatK, List.size_toArray] at ht
  have hn : t / 3 < G.length := by omega
  rw [get_flatK cellE 3 G.toArray t (by rw [List.size_toArray]; exact ht), get_bang hn]
  obtain ⟨e0, e1, e2⟩ := flatE_at hn
  have ht3 : t = t / 3 * 3 + t % 3 := by omega
  have hr : t % 3 = 0 ∨ t % 3 = 1 ∨ t % 3 = 2 := by omega
  generalize t / 3 = n at *
  generalize t % 3 = r at *
  subst ht3
  rcases hr with rfl | rfl | rfl
  · rw [Nat.add_zero, bang_of e0]; rfl
  · rw [bang_of e1]; rfl
  · rw [bang_of e2]; rfl
theorem sortE_any (blk cap : Nat) (G : List Ed) (hl : G.length ≤ 1048576) (w : World) (hblk : blk < w.heap.size) (hrow : RowIs blk w (flatE G)) :
    Calls Try.prog 38 #[.slice (some ⟨blk, 0, none⟩) G.length cap, .func (.func 39) #[] #[]] w fun e w' =>
      e = .returned (.tuple #[]) ∧ Below blk w w' ∧ RowIs blk w' (flatE (sortE G)) ∧ w.heap.size ≤ w'.heap.size := by
  have hH : HoldsK cellE 3 w blk 0 G.toArray := by
    unfold HoldsK
    rw [flatK_flatE]
    intro j hj
    have hj' : j < (flatE G).length := by simpa using hj
    rw [get_bang hj', Nat.zero_add]
    exact hrow j hj'
  have hcmp : CmpLays Try.prog 39 #[] cellE 3 cmpE blk 0 G.toArray.size w := by
    intro m os dk _ x y
    exact cmp_any x y _
  have hS := AnyQ.slices_SortFunc_total Try.laysSortF 3 (fun w => Try.isAgg58 w) (fun w => Try.sizeOf58 w) cellE (fun _ => rfl) (fun e => ones_edge) cmpE swoE 39 #[] blk 0 cap G.toArray w
    (enters_of Try.func39 (by kernel_rfl) rfl) hcmp hH hblk (by simp; omega) totE
  refine Calls.mono hS ?_
  rintro e w' ⟨rfl, n, os, rfl⟩
  have hb := sortWorld_below id w blk 0 n (flatK cellE 3 (sortE G).toArray) os hblk
  refine ⟨rfl, hb, fun i hi => ?_, hb.size⟩
  have hlen : (flatE (sortE G)).length = (flatE G).length := by rw [flatE_len, flatE_len]; unfold sortE; rw [List.length_mergeSort]
  have hh := holds_sortWorld id w blk 0 n (flatK cellE 3 G.toArray) (flatK cellE 3 (sortE G).toArray) os hblk hH (by rw [flatK_flatE, flatK_flatE]; simp [hlen]) i (by rw [flatK_flatE]; simpa using hi)
  rw [flatK_flatE, get_bang hi, Nat.zero_add] at hh
  have e : sortWorldK cellE 3 w blk 0 n (sortE G).toArray os = sortWorld id w blk 0 n (flatE (sortE G)).toArray os := by
    unfold sortWorldK sortWorld putRowK; rw [flatK_flatE]
  show (sortWorldK cellE 3 w blk 0 n (sortE G).toArray os).cell? _ = _ ∧ (sortWorldK cellE 3 w blk 0 n (sortE G).toArray os).frozen? _ = _
  rw [e]
  exact hh
theorem sort_none (a : Option Addr) (cap : Nat) (w : World) :
    Calls Try.prog 38 #[.slice a 0 cap, .func (.func 39) #[] #[]] w fun e w' => e = .returned (.tuple #[]) ∧ w' = w := AnyF.slices_SortFunc_none Try.laysSortF a cap _ w
end Go.Proofs.Ytbankocbncpepaa
