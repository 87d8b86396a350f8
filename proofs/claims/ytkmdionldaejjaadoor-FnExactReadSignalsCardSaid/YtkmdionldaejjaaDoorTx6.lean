/- Texts read by the program: a number; what its library's variables hold. -/
import Derived.Test.YtkmdionldaejjaaDoorTx5
import Derived.Lib.LaidTab
import Derived.Lib.AppendIntMem
import Derived.Lib.SmallJoins
import Derived.WideLaws
namespace Go.Proofs.YtkmdionldaejjaaDoor
open Go.RowKit
set_option linter.unusedSimpArgs false
set_option linter.unusedVariables false

/-- What the library's variables hold. -/
structure TxW (w : World) : Prop where
  maxl : ∃ m, w.cell? ⟨0, 0, none⟩ = some (.int .i64 m)
  syn : ∃ te pe, w.cell? ⟨2, 0, none⟩ = some (.iface te pe)
  rng : ∃ te pe, w.cell? ⟨3, 0, none⟩ = some (.iface te pe)
  tab : Lib.TabIs Tryd.prog w "internal/strconv.uint64pow10" .u64 Lib.pow10Tab
theorem g_pow : Tryd.prog.globalNamed "internal/strconv.uint64pow10" = some 1 := by kernel_rfl
theorem TxW.below {w w' : World} {C : Nat} (h : TxW w) (hb : Below C w w') (hC : w.heap.size ≤ C) : TxW w' := by
  obtain ⟨⟨m, h1⟩, ⟨te, pe, h2⟩, ⟨tr, pr, h3⟩, h4⟩ := h
  have k1 := World.block_lt_of_cell? w _ h1
  have k2 := World.block_lt_of_cell? w _ h2
  have k3 := World.block_lt_of_cell? w _ h3
  refine ⟨⟨m, by rw [hb.cell (p := ⟨0, 0, none⟩) (Nat.lt_of_lt_of_le k1 hC)]; exact h1⟩, ⟨te, pe, by rw [hb.cell (p := ⟨2, 0, none⟩) (Nat.lt_of_lt_of_le k2 hC)]; exact h2⟩, ⟨tr, pr, by rw [hb.cell (p := ⟨3, 0, none⟩) (Nat.lt_of_lt_of_le k3 hC)]; exact h3⟩, ?_⟩
  have h5 := h4
  unfold Lib.TabIs World.var? at h4 ⊢
  simp only [g_pow, Option.bind_some] at h4 ⊢
  have hlt : 1 < w.heap.size := by
    cases hh : w.heap[1]? with
    | none => rw [hh] at h4; simp at h4
    | some o => exact (Array.getElem?_eq_some_iff.1 hh).1
  rw [hb.block _ (Nat.lt_of_lt_of_le hlt hC)]
  exact h4
theorem TxW.later {w w' : World} (h : TxW w) (hb : Below w.heap.size w w') : TxW w' := h.below hb (Nat.le_refl _)

/-- A number that is written as Itoa writes it. -/
def rnO (l : List UInt8) : Option Int := match Lib.atoiAll l with | .ok n => if Lib.itoa n = l then some n else none | _ => none
theorem rnO_ok {l : List UInt8} {n : Int} (h : Lib.atoiAll l = .ok n) : rnO l = if Lib.itoa n = l then some n else none := by simp [rnO, h]
theorem rnO_syn {l : List UInt8} (h : Lib.atoiAll l = .syntax) : rnO l = none := by simp [rnO, h]
theorem rnO_rng {l : List UInt8} (h : Lib.atoiAll l = .range) : rnO l = none := by simp [rnO, h]
theorem atoi_bd {l : List UInt8} {n : Int} (h : Lib.atoiAll l = .ok n) : -9223372036854775808 ≤ n ∧ n ≤ 9223372036854775807 := by
  cases l with
  | nil => simp [Lib.atoiAll] at h
  | cons c r =>
    unfold Lib.atoiAll at h
    simp only at h
    generalize Lib.parseMag (if c.toNat = 43 ∨ c.toNat = 45 then r else c :: r) = q at h
    cases q with
    | «syntax» => simp at h
    | range => simp at h
    | ok u =>
      simp only at h
      by_cases h1 : ¬ c.toNat = 45 ∧ 9223372036854775808 ≤ u
      · rw [if_pos h1] at h; simp at h
      · rw [if_neg h1] at h
        by_cases h2 : c.toNat = 45 ∧ 9223372036854775808 < u
        · rw [if_pos h2] at h; simp at h
        · rw [if_neg h2] at h
          simp only [Lib.NumEnd.ok.injEq] at h
          subst h
          by_cases h3 : c.toNat = 45
          · rw [if_pos h3]
            have : ¬ 9223372036854775808 < u := fun h => h2 ⟨h3, h⟩
            omega
          · rw [if_neg h3]
            have : ¬ 9223372036854775808 ≤ u := fun h => h1 ⟨h3, h⟩
            omega
theorem str_ext {a b : ByteArray} (h : a.data.toList = b.data.toList) : a = b := by rw [← toB_of a, h, toB_of]
theorem str_ne {a b : ByteArray} (h : a ≠ b) : (a.toList == b.toList) = false := by
  rw [beq_eq_false_iff_ne, ByteArray.toList_eq, ByteArray.toList_eq]; exact fun e => h (str_ext e)
theorem neq_nil (w : World) : (binOp .neq 60 .nilIface .nilIface).run Tryd.prog w = .ok (.bool false) w := run_neq_nil_nil w 60 (by kernel_rfl)
theorem neq_held (u : TypeId) (x : Value) (w : World) : (binOp .neq 60 (.iface u x) .nilIface).run Tryd.prog w = .ok (.bool true) w := run_neq_held_nil w 60 u x (by kernel_rfl)

set_option maxRecDepth 100000 in
set_option maxHeartbeats 800000 in
theorem readNumber_any (s : ByteArray) (w : World) (hs : s.size ≤ 1099511627776) (hT : TxW w) :
    Calls Tryd.prog 50 #[.string s] w fun e w' => e = .returned (.tuple #[.int .i64 ((rnO s.data.toList).getD 0), .bool (rnO s.data.toList).isSome]) ∧ Below w.heap.size w w' := by
  have hnn := neq_nil
  have hnh := neq_held
  have HT := Lib.hid hT
  clear hT
  cases ha : Lib.atoiAll s.data.toList with
  | «syntax» =>
    obtain ⟨te, pe, hv⟩ := HT.out.syn
    have HO := Lib.hid (rnO_syn ha)
    go_enter Tryd.func50, Tryd.ntmps50
    go_wp2_with (go_at_call 69; refine (Tryd.strconv_Atoi_syntax s (by omega) ha _ _ hv (.inr ⟨_, _, rfl⟩)).mono ?_; rintro e w1 ⟨N, rfl, -, -, hb1⟩)
    go_ret2
    exact ⟨by rw [HO.out]; rfl, hb1⟩
  | range =>
    obtain ⟨te, pe, hv⟩ := HT.out.rng
    have HO := Lib.hid (rnO_rng ha)
    go_enter Tryd.func50, Tryd.ntmps50
    go_wp2_with (go_at_call 69; refine (Tryd.strconv_Atoi_range s (by omega) ha _ _ hv (.inr ⟨_, _, rfl⟩)).mono ?_; rintro e w1 ⟨N, rfl, -, -, hb1⟩)
    go_ret2
    exact ⟨by rw [HO.out]; rfl, hb1⟩
  | ok n =>
    obtain ⟨n0, n1⟩ := atoi_bd ha
    have HO := Lib.hid (rnO_ok ha)
    go_enter Tryd.func50, Tryd.ntmps50
    go_wp2_with fail
    refine (Tryd.strconv_Atoi_ok s (by omega) n ha _).mono ?_
    rintro e w1 ⟨rfl, hw1⟩
    have hb1 : Below w.heap.size w w1 := by
      rcases hw1 with rfl | ⟨t, rfl⟩
      · exact Below.refl _ _
      · exact Joins.below_bytesWorld _ _ _ _ (Nat.le_refl _)
    have hT1 := Lib.hid (HT.out.later hb1).tab
    clear hw1
    go_wp2_with fail
    refine (Tryd.strconv_Itoa n n0 n1 _ hT1.out).mono ?_
    rintro e w2 ⟨rfl, k, os, rfl⟩
    have hb2 : Below w.heap.size w (Sort.grow (w1.drewN k) os) := hb1.trans (Lib.below_grow _ _ hb1.size _ _)
    obtain ⟨t, ht⟩ : ∃ t : ByteArray, t = ⟨(Lib.itoa n).toArray⟩ := ⟨_, rfl⟩
    have HTT := Lib.hid ht
    rw [← ht]
    clear ht
    by_cases he : t = s
    · have hv : Hid (rnO s.data.toList = some n) := Lib.hid (by
        rw [HO.out, if_pos (by rw [← he, HTT.out])])
      subst he
      go_wp2
      go_ret2
      exact ⟨by rw [hv.out]; rfl, hb2⟩
    · have hv : Hid (rnO s.data.toList = none) := Lib.hid (by
        rw [HO.out, if_neg (fun e => he (by rw [HTT.out, e]))])
      have hne := str_ne he
      go_wp2
      go_ret2
      exact ⟨by rw [hv.out]; rfl, hb2⟩
end Go.Proofs.YtkmdionldaejjaaDoor
