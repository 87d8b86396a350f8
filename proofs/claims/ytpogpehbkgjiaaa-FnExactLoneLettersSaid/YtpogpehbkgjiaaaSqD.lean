/- Chapter 3: the letters that are phrases by themselves, on both sides. -/
import Derived.Test.YtpogpehbkgjiaaaSqC
import Derived.Test.YtpogpehbkgjiaaaIter
namespace Go.Proofs.Ytpogpehbkgjiaaa
open Go.RowKit
set_option linter.unusedSimpArgs false
set_option linter.unusedVariables false

/-- The texts of the phrases of single letters among the first k, in the book's order. -/
def loneT (ps : List Ph) (k : Nat) : List (List UInt8) := ((List.range k).filter (loneS ps)).map fun i => (phAt ps i).txt.data.toList
def loneB (ps : List Ph) (k : Nat) : ByteArray := ⟨(loneT ps k).flatten.toArray⟩
theorem loneT_yes {ps : List Ph} {k : Nat} (h : loneS ps k = true) : loneT ps (k + 1) = loneT ps k ++ [(phAt ps k).txt.data.toList] := by
  simp [loneT, List.range_succ, List.filter_append, List.filter_cons, h]
theorem loneT_no {ps : List Ph} {k : Nat} (h : loneS ps k = false) : loneT ps (k + 1) = loneT ps k := by
  simp [loneT, List.range_succ, List.filter_append, List.filter_cons, h]
theorem loneB_yes {ps : List Ph} {k : Nat} (h : loneS ps k = true) : loneB ps (k + 1) = loneB ps k ++ (phAt ps k).txt := by
  apply bytes_ext
  simp [loneB, loneT_yes h]
theorem loneB_no {ps : List Ph} {k : Nat} (h : loneS ps k = false) : loneB ps (k + 1) = loneB ps k := by simp [loneB, loneT_no h]
theorem loneB_size (ps : List Ph) : ∀ k, (loneB ps k).size ≤ k
  | 0 => Nat.le_refl 0
  | k + 1 => by
    have ih := loneB_size ps k
    cases h : loneS ps k with
    | true =>
      have : (phAt ps k).txt.size ≤ 1 := by simpa [loneS] using h
      rw [loneB_yes h, ByteArray.size_append]; omega
    | false => rw [loneB_no h]; omega
theorem loneT_sorted {ps : List Ph} (hb : bookB ps = true) : (loneT ps ps.length).Pairwise fun x y => x < y := by
  unfold loneT
  rw [List.pairwise_map]
  refine ((List.pairwise_lt_range (n := ps.length)).filter _).imp_of_mem fun {i j} hi hj hij => ?_
  have hj' : j < ps.length := by simpa using (List.mem_filter.1 hj).1
  have := (bookB_incr hb).mono hij hj'
  rw [lessB_data, Go.Proofs.bytesLess_eq] at this
  simpa using this
theorem mem_loneT {ps : List Ph} {x : List UInt8} : x ∈ loneT ps ps.length ↔ (lookI ps (loneS ps) x).isSome = true := by
  unfold loneT lookI
  rw [List.find?_isSome, List.mem_map]
  constructor
  · rintro ⟨i, hi, rfl⟩
    obtain ⟨h1, h2⟩ := List.mem_filter.1 hi
    exact ⟨i, h1, by simp [h2]⟩
  · rintro ⟨i, hi, h⟩
    simp at h
    exact ⟨i, List.mem_filter.2 ⟨hi, h.1⟩, h.2⟩
theorem lone_sort {ps : List Ph} {w : World} {b n : Nat} {D : DataW Unit} {ss : List (List UInt8)} (hb : bookB ps = true) (hown : w.ownsMap Try.prog 9 (plainElem Try.prog 3) b n D) (ht : TxtMap ps (loneS ps) D) (hp : ss.Perm (Go.strKeys D)) :
    ss.mergeSort (fun x y => decide (x ≤ y)) = loneT ps ps.length := by
  have hs := loneT_sorted hb
  obtain ⟨es, hD, hpw, _⟩ := hown.entries Try_law
  obtain ⟨es', hD', hko⟩ := Go.World.ownsMap.keysOf hown
  obtain rfl : es = es' := by rw [hD] at hD'; simpa using hD'
  subst hD
  have hnd : (loneT ps ps.length).Nodup := hs.imp fun h e => by subst e; exact absurd h (List.lt_irrefl _)
  have hq := Go.perm_strKeys hpw (fun p hp => by obtain ⟨v, hv⟩ := hko p hp; obtain ⟨x, _, hx, _⟩ := Go.Maps.keyOf_str Try.underlying9 hv; exact ⟨x, hx⟩) hnd (fun x => by rw [mem_loneT, (ht x).1])
  rw [Go.mergeSort_of_perm (hp.trans hq.symm)]
  refine List.Perm.eq_of_pairwise (le := fun a b => Go.leB a b = true) (fun a b _ _ h1 h2 => ?_) (List.pairwise_mergeSort (fun a b c h1 h2 => ?_) (fun a b => ?_) _) (hs.imp fun h => ?_) (List.mergeSort_perm _ _)
  · simp only [Go.leB, decide_eq_true_eq] at h1 h2; exact List.le_antisymm h1 h2
  · simp only [decide_eq_true_eq] at *; exact List.le_trans h1 h2
  · simp only [Bool.or_eq_true, decide_eq_true_eq]; exact List.le_total a b
  · simp only [Go.leB, decide_eq_true_eq]; exact List.le_of_lt h
end Go.Proofs.Ytpogpehbkgjiaaa
