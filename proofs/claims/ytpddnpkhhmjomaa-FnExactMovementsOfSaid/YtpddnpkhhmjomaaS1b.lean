/- Chapter 1: lists of signals. -/
import Derived.Test.YtpddnpkhhmjomaaS1
import Derived.StillTailTactics
namespace Go.Proofs.Ytpddnpkhhmjomaa
open Go.RowKit
set_option linter.unusedSimpArgs false
set_option linter.unusedVariables false

/-! Plain: lists and movements. -/
def allIn (zs : List Int) (lo hi : Int) : Bool := zs.all fun n => inB n lo hi
def lsB (zs : List Int) : Bool := decide (zs.length ≤ 100) && allIn zs 0 63
theorem lsB_len {zs : List Int} (h : lsB zs = true) : zs.length ≤ 100 := by simp [lsB] at h; exact h.1
theorem lsB_get {zs : List Int} (h : lsB zs = true) (i : Nat) (hi : i < zs.length) : 0 ≤ zs[i]?.getD 0 ∧ zs[i]?.getD 0 ≤ 63 := by
  simp [lsB, allIn, inB] at h
  have := h.2 zs[i] (List.getElem_mem hi)
  simp [hi, this]
def lastTo (zs : List Int) (k : Nat) : Int := (0 :: zs)[k]?.getD 0
def mvTo (zs : List Int) : Nat → Int
  | 0 => 0
  | k + 1 => mvTo zs k + dist (lastTo zs k) (zs[k]?.getD 0)
theorem mvTo_bd (zs : List Int) (k : Nat) : 0 ≤ mvTo zs k ∧ mvTo zs k ≤ 6 * k := by
  induction k with
  | zero => simp [mvTo]
  | succ k ih => have := dist_bd (lastTo zs k) (zs[k]?.getD 0); simp only [mvTo]; omega
theorem lastTo_snoc (zs : List Int) (k : Nat) (h : k ≤ zs.length) : lastTo (zs ++ [0]) k = lastTo zs k := by
  cases k with
  | zero => rfl
  | succ k => simp only [lastTo, List.getElem?_cons_succ]; rw [List.getElem?_append_left (by omega)]
theorem mvTo_snoc (zs : List Int) (k : Nat) (h : k ≤ zs.length) : mvTo (zs ++ [0]) k = mvTo zs k := by
  induction k with
  | zero => rfl
  | succ k ih => simp only [mvTo]; rw [ih (by omega), lastTo_snoc zs k (by omega), List.getElem?_append_left (by omega)]
def moves (zs : List Int) : Int := mvTo zs zs.length + dist (lastTo zs zs.length) 0
theorem moves_snoc (zs : List Int) : mvTo (zs ++ [0]) (zs.length + 1) = moves zs := by
  simp only [mvTo, moves]
  rw [mvTo_snoc zs _ (Nat.le_refl _), lastTo_snoc zs _ (Nat.le_refl _)]
  simp
theorem lastTo_range {zs : List Int} (h : lsB zs = true) (k : Nat) (hk : k ≤ zs.length) : 0 ≤ lastTo zs k ∧ lastTo zs k ≤ 63 := by
  cases k with
  | zero => simp [lastTo]
  | succ k => simp only [lastTo, List.getElem?_cons_succ]; exact lsB_get h k (by omega)
theorem lastTo_succ (zs : List Int) (k : Nat) : lastTo zs (k + 1) = zs[k]?.getD 0 := rfl

theorem allIn_false (zs : List Int) (lo hi : Int) (k : Nat) (hk : k < zs.length) (h : inB (zs[k]?.getD 0) lo hi = false) : allIn zs lo hi = false := by
  simp only [allIn, List.all_eq_false]
  refine ⟨zs[k], List.getElem_mem hk, ?_⟩
  simpa [hk] using h
theorem allIn_true (zs : List Int) (lo hi : Int) (h : ∀ k, k < zs.length → inB (zs[k]?.getD 0) lo hi = true) : allIn zs lo hi = true := by
  simp only [allIn, List.all_eq_true]
  intro x hx
  obtain ⟨i, hi, rfl⟩ := List.mem_iff_getElem.1 hx
  have := h i hi
  simpa [hi] using this

theorem l1In_any (n lo hi : Int) (w : World) : Calls Try.prog 54 #[.int .i64 n, .int .i64 lo, .int .i64 hi] w fun e w' => e = .returned (.bool (inB n lo hi)) ∧ w = w' := by
  by_cases h0 : lo ≤ n
  · go_enter Try.func54, Try.ntmps54
    go_wp2
    go_ret
    exact ⟨ret_bool (by unfold inB; simp; try omega), rfl⟩
  · go_enter Try.func54, Try.ntmps54
    go_wp2
    go_ret
    exact ⟨ret_bool (by unfold inB; simp; try omega), rfl⟩

theorem l1All_any (v : Value) (zs : List Int) (lo hi : Int) (w : World) (hr : Rd w v zs) :
    Calls Try.prog 60 #[v, .int .i64 lo, .int .i64 hi] w fun e w' => e = .returned (.bool (allIn zs lo hi)) ∧ w = w' := by
  rcases hr with ⟨rfl, a1, c1, rfl, -⟩ | ⟨g, off, cap, rfl, hg, hm, hc⟩
  · go_enter Try.func60, Try.ntmps60
    go_wp2
    go_loop [11] (fun i => i = .int .i64 0) (fun i => 0)
    case atStart => exact rfl
    case round =>
      obtain rfl := hrel
      go_wp2
      go_ret
      exact ⟨ret_bool rfl, rfl⟩
  · obtain ⟨n, hn⟩ : ∃ n, n = zs.length := ⟨_, rfl⟩
    have HN := Lib.hid hn
    rw [← hn] at hm hc ⊢
    clear hn
    unfold maxLen at hm
    go_enter Try.func60, Try.ntmps60
    go_wp2
    go_loop [11] (fun i => ∃ k : Nat, k ≤ n ∧ i = .int .i64 k ∧ Hid (∀ j, j < k → inB (zs[j]?.getD 0) lo hi = true)) (fun i => n - (intOf i).toNat)
    case atStart => exact ⟨0, Nat.zero_le _, rfl, Lib.hid fun j hj => by omega⟩
    case round =>
      obtain ⟨k, hk, rfl, hall⟩ := hrel
      by_cases hlt : k < n
      · have q := hc k hlt
        clear hc
        cases hb : inB (zs[k]?.getD 0) lo hi with
        | true =>
          have hall' : Hid (∀ j, j < k + 1 → inB (zs[j]?.getD 0) lo hi = true) := Lib.hid fun j hj => by
            by_cases e : j = k
            · rw [e]; exact hb
            · exact hall.out j (by omega)
          go_wp2_with (go_at_call 54; refine (l1In_any _ _ _ _).mono ?_; rintro e w' ⟨rfl, rfl⟩)
          go_round
          case rel => exact ⟨k + 1, by omega, by go_num, hall'⟩
          case measure => simp [intOf]; omega
        | false =>
          have hf := Lib.hid (allIn_false zs lo hi k (by rw [← HN.out]; exact hlt) hb)
          go_wp2_with (go_at_call 54; refine (l1In_any _ _ _ _).mono ?_; rintro e w' ⟨rfl, rfl⟩)
          go_ret
          exact ⟨ret_bool hf.out.symm, rfl⟩
      · have hf := Lib.hid (allIn_true zs lo hi fun j hj => hall.out j (by have := HN.out; omega))
        clear hc
        go_wp2
        go_ret
        exact ⟨ret_bool hf.out.symm, rfl⟩

theorem sgList_any (v : Value) (zs : List Int) (w : World) (hr : Rd w v zs) :
    Calls Try.prog 49 #[v] w fun e w' => e = .returned (.bool (lsB zs)) ∧ w = w' := by
  obtain ⟨a, cap, hv⟩ := hr.len
  have HR := Lib.hid hr
  clear hr
  subst hv
  by_cases h : zs.length ≤ 100
  · have hf : lsB zs = allIn zs 0 63 := by simp [lsB, h]
    have HF := Lib.hid hf
    clear hf
    go_enter Try.func49, Try.ntmps49
    go_wp2_with (go_at_call 60; refine (l1All_any _ zs 0 63 _ HR.out).mono ?_; rintro e w' ⟨rfl, rfl⟩)
    go_ret
    exact ⟨ret_bool HF.out.symm, rfl⟩
  · have hf : lsB zs = false := by simp [lsB, h]
    have HF := Lib.hid hf
    clear hf
    go_enter Try.func49, Try.ntmps49
    go_wp2
    go_ret
    exact ⟨ret_bool HF.out.symm, rfl⟩

theorem areSignals_any (v : Value) (zs : List Int) (w : World) (hr : Rd w v zs) :
    Calls Try.prog 51 #[v] w fun e w' => e = .returned (.bool (lsB zs)) ∧ w = w' := by
  rcases hr with ⟨rfl, a1, c1, rfl, -⟩ | ⟨g, off, cap, rfl, hg, hm, hc⟩
  · go_enter Try.func51, Try.ntmps51
    go_wp2
    go_loop [10] (fun i => i = .int .i64 0) (fun i => 0)
    case atStart => exact rfl
    case round =>
      obtain rfl := hrel
      go_wp2
      go_ret
      exact ⟨ret_bool rfl, rfl⟩
  · by_cases h : zs.length ≤ 100
    · have hf : lsB zs = allIn zs 0 63 := by simp [lsB, h]
      have HF := Lib.hid hf
      clear hf
      obtain ⟨n, hn⟩ : ∃ n, n = zs.length := ⟨_, rfl⟩
      have HN := Lib.hid hn
      rw [← hn] at hm hc h ⊢
      clear hn
      unfold maxLen at hm
      go_enter Try.func51, Try.ntmps51
      go_wp2
      go_loop [10] (fun i => ∃ k : Nat, k ≤ n ∧ i = .int .i64 k ∧ Hid (∀ j, j < k → inB (zs[j]?.getD 0) 0 63 = true)) (fun i => n - (intOf i).toNat)
      case atStart => exact ⟨0, Nat.zero_le _, rfl, Lib.hid fun j hj => by omega⟩
      case round =>
        obtain ⟨k, hk, rfl, hall⟩ := hrel
        by_cases hlt : k < n
        · have q := hc k hlt
          clear hc
          cases hb : isSig (zs[k]?.getD 0) with
          | true =>
            have hall' : Hid (∀ j, j < k + 1 → inB (zs[j]?.getD 0) 0 63 = true) := Lib.hid fun j hj => by
              by_cases e : j = k
              · rw [e]; exact hb
              · exact hall.out j (by omega)
            go_wp2_with (go_at_call 40; refine (isSignal_any _ _).mono ?_; rintro e w' ⟨rfl, rfl⟩)
            go_round
            case rel => exact ⟨k + 1, by omega, by go_num, hall'⟩
            case measure => simp [intOf]; omega
          | false =>
            have hf := Lib.hid (allIn_false zs 0 63 k (by rw [← HN.out]; exact hlt) hb)
            go_wp2_with (go_at_call 40; refine (isSignal_any _ _).mono ?_; rintro e w' ⟨rfl, rfl⟩)
            go_ret
            exact ⟨ret_bool (by rw [HF.out, hf.out]), rfl⟩
        · have hf := Lib.hid (allIn_true zs 0 63 fun j hj => hall.out j (by have := HN.out; omega))
          clear hc
          go_wp2
          go_ret
          exact ⟨ret_bool (by rw [HF.out, hf.out]), rfl⟩
    · have hf : lsB zs = false := by simp [lsB, h]
      have HF := Lib.hid hf
      clear hf hc
      go_enter Try.func51, Try.ntmps51
      go_wp2
      go_ret
      exact ⟨ret_bool HF.out.symm, rfl⟩

theorem l1Own_any (v : Value) (zs : List Int) (w : World) (hz : zs.length ≤ 1099511627776) (hr : Rd w v zs) :
    Calls Try.prog 61 #[v] w fun e w' => ∃ v', e = .returned v' ∧ Own w' w.heap.size v' zs ∧ Below w.heap.size w w' := by
  have he := Own.empty w w.heap.size (Nat.le_refl _)
  have hb := (Below.refl w.heap.size w).alloc (Nat.le_refl _) (.cells #[] 3)
  have hr1 := hr.later hb
  obtain ⟨a, cap, hv⟩ := hr.len
  subst hv
  have HR := Lib.hid hr1
  have HE := Lib.hid he
  clear hr hr1 he
  go_enter Try.func61, Try.ntmps61
  go_wp2_with (at_builtin; refine append_ints rfl _ _ rfl w.heap.size _ [] zs _ rfl rfl HE.out HR.out (by simpa using hz) (by simp) ?_; intro v' w1 hown1 hgrow1)
  go_ret
  exact ⟨_, rfl, by simpa using hown1, hb.grown hgrow1 (by simp) (fun k hk => (HE.out.lt k hk).1)⟩

theorem sgMoves_any (v : Value) (zs : List Int) (w : World) (hr : Rd w v zs) (hl : lsB zs = true) :
    Calls Try.prog 50 #[v] w fun e w' => e = .returned (.int .i64 (moves zs)) ∧ Below w.heap.size w w' := by
  have hlen := lsB_len hl
  obtain ⟨a, cap, hv⟩ := hr.len
  subst hv
  have HR := Lib.hid hr
  have HL := Lib.hid hl
  clear hr hl
  go_enter Try.func50, Try.ntmps50
  go_wp2_with fail
  refine (l1Own_any _ zs _ (by omega) HR.out).mono ?_
  rintro e w1 ⟨v1, rfl, ho1, hb1⟩
  have hs1 := hb1.size
  have hn2 : (zs ++ [(0 : Int)]).length = zs.length + 1 := by simp
  obtain ⟨n, hn⟩ : ∃ n, zs.length = n := ⟨_, rfl⟩
  rw [hn] at hn2 hlen
  have HN : Hid (n = zs.length) := Lib.hid hn.symm
  have HN2 := Lib.hid hn2
  clear hn hn2
  go_wp2_with (at_builtin; refine append_int rfl _ _ rfl w.heap.size _ zs 0 w1.heap.size rfl rfl (ho1.alloc _) (new_cell _ _ _) (by rw [← HN.out]; omega) (by simp; omega) ?_; intro v2 w2 ho2 hg2; obtain ⟨g, cp, rfl, hB, hg⟩ := ho2.nonnil n HN2.out)
  have hb2 : Below w.heap.size w w2 := (hb1.alloc hs1 _).grown hg2 (by simp; omega) (fun k hk => (ho1.lt k hk).1)
  have hs2 := hb2.size
  have HRD := Lib.hid ho2.rd
  clear ho2 hg2 ho1
  go_loopw [3, 4, 12] (fun t l i wr => ∃ k : Nat, k ≤ n + 1 ∧ i = .int .i64 k ∧ t = .int .i64 (mvTo (zs ++ [0]) k) ∧ l = .int .i64 (lastTo (zs ++ [0]) k) ∧ Below w2.heap.size w2 wr) (fun _ _ i _ => n + 1 - (intOf i).toNat)
  case atStart => exact ⟨0, by omega, rfl, rfl, rfl, Below.refl _ _⟩
  case round =>
    obtain ⟨k, hk, rfl, rfl, rfl, hb⟩ := hrel
    by_cases hlt : k < n + 1
    · have q : wr.cell? ⟨g, k, none⟩ = some (.int .i64 ((zs ++ [0])[k]?.getD 0)) := by
        rcases HRD.out with ⟨h, -⟩ | ⟨g', off, cap', hv, hg', hm, hc⟩
        · simp at h
        · simp only [Value.slice.injEq, Option.some.injEq, Addr.mk.injEq, and_true] at hv
          obtain ⟨⟨rfl, rfl⟩, -, -⟩ := hv
          have := hc k (by rw [HN2.out]; exact hlt)
          rw [Nat.zero_add] at this
          rw [hb.cell (p := ⟨g, k, none⟩) hg']; exact this
      have hx : 0 ≤ (zs ++ [0])[k]?.getD 0 ∧ (zs ++ [0])[k]?.getD 0 ≤ 63 := by
        by_cases e : k < n
        · rw [List.getElem?_append_left (by rw [← HN.out]; exact e)]; exact lsB_get HL.out k (by rw [← HN.out]; exact e)
        · rw [List.getElem?_append_right (by rw [← HN.out]; omega)]
          have : k - zs.length = 0 := by rw [← HN.out]; omega
          rw [this]; decide
      have hl : 0 ≤ lastTo (zs ++ [0]) k ∧ lastTo (zs ++ [0]) k ≤ 63 := by
        rw [lastTo_snoc zs k (by rw [← HN.out]; omega)]; exact lastTo_range HL.out k (by rw [← HN.out]; omega)
      have hmv := mvTo_bd (zs ++ [0]) k
      have hd := dist_bd (lastTo (zs ++ [0]) k) ((zs ++ [0])[k]?.getD 0)
      obtain ⟨x, hxe⟩ : ∃ x, x = (zs ++ [0])[k]?.getD 0 := ⟨_, rfl⟩
      rw [← hxe] at q hx hd
      obtain ⟨l, hle⟩ : ∃ l, l = lastTo (zs ++ [0]) k := ⟨_, rfl⟩
      rw [← hle] at hl hd ⊢
      have HXE := Lib.hid hxe
      have HLE := Lib.hid hle
      clear hxe hle
      go_wp2_with (go_at_call 46; refine (sgDistance_any _ _ _ hl.1 hl.2 hx.1 hx.2).mono ?_; rintro e w' ⟨rfl, hb'⟩)
      go_roundw
      case rel => exact ⟨k + 1, by omega, by go_num, by simp only [mvTo]; rw [← HXE.out, ← HLE.out], by rw [lastTo_succ, ← HXE.out], hb.trans (hb'.mono hb.size)⟩
      case measure => simp [intOf]; omega
    · obtain rfl : k = n + 1 := by omega
      go_wp2
      go_ret
      exact ⟨ret_int (by rw [HN.out]; exact moves_snoc zs), hb2.trans (hb.mono hs2)⟩
end Go.Proofs.Ytpddnpkhhmjomaa
