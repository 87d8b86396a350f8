/- The helpers of the laws on slices of integers, by their contracts. -/
import Derived.Test.YtfmmkiijohnbfaaDoorChecked
import Derived.Test.YtfmmkiijohnbfaaDoorApp
import Derived.Maps.AppendAt
import Derived.WalkKit
import Derived.ProofKit
import Derived.Outline
import Derived.Deep.QuietTactic
import Derived.BigQuiet
import Derived.Lib.Hide
namespace Go.Proofs.YtfmmkiijohnbfaaDoor
open Go.RowKit
set_option linter.unusedSimpArgs false
set_option linter.unusedVariables false


/-- The numbers k0, k0 + 1 .. of markIntS. -/
def markZ (k0 : Int) (n : Nat) : List Int := (List.range n).map fun i : Nat => k0 + (i : Int)
theorem markZ_len (k0 : Int) (n : Nat) : (markZ k0 n).length = n := by simp [markZ]
theorem markZ_get (k0 : Int) (n i : Nat) (h : i < n) : (markZ k0 n)[i]?.getD 0 = k0 + i := by simp [markZ, h]
theorem mark_step (k0 : Int) (zs : List Int) (k : Nat) (h : k < zs.length) :
    ((markZ k0 k ++ zs.drop k).map (Value.int .i64)).set k (.int .i64 (k0 + k)) = (markZ k0 (k + 1) ++ zs.drop (k + 1)).map (Value.int .i64) := by
  have e : zs.drop k = zs[k] :: zs.drop (k + 1) := List.drop_eq_getElem_cons h
  rw [e]
  have hl : k = ((markZ k0 k).map (Value.int .i64)).length := by simp [markZ_len]
  rw [List.map_append, List.map_cons]
  conv => lhs; rw [List.set_append_right _ _ (by simp [markZ_len])]
  simp [markZ, List.range_succ]
theorem mark_len (k0 : Int) (zs : List Int) (k : Nat) (h : k ≤ zs.length) : (markZ k0 k ++ zs.drop k).length = zs.length := by simp [markZ_len]; omega

theorem copy_step (zs : List Int) (n k : Nat) (hn : zs.length = n) (h : k < n) :
    (((zs.take k) ++ List.replicate (n - k) 0).map (Value.int .i64)).set k (.int .i64 (zs[k]?.getD 0)) = ((zs.take (k + 1)) ++ List.replicate (n - (k + 1)) 0).map (Value.int .i64) := by
  have e : List.replicate (n - k) (0 : Int) = 0 :: List.replicate (n - (k + 1)) 0 := by
    rw [show n - k = (n - (k + 1)) + 1 by omega, List.replicate_succ]
  rw [e, List.map_append, List.set_append_right _ _ (by simp; omega)]
  have hk : k - ((zs.take k).map (Value.int .i64)).length = 0 := by simp; omega
  rw [hk, List.take_succ_eq_append_getElem (by omega : k < zs.length)]
  have hk' : k < zs.length := by omega
  simp only [List.map_append, List.map_cons, List.set_cons_zero, List.append_assoc, List.cons_append, List.nil_append]
  simp [hk']
theorem copy_len (zs : List Int) (n k : Nat) (hn : zs.length = n) (h : k ≤ n) : (zs.take k ++ List.replicate (n - k) 0).length = n := by simp; omega

end Go.Proofs.YtfmmkiijohnbfaaDoor
