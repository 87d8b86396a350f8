/- Chapter 2: lists of signals, whether two are the same, whether they are a phrase's. Written by a generator of this claim's author. -/
import Derived.Test.YtkmdionldaejjaaDoorBk3
namespace Go.Proofs.YtkmdionldaejjaaDoor
open Go.RowKit
set_option linter.unusedSimpArgs false
set_option linter.unusedVariables false

theorem Rd.max {w : World} {v : Value} {zs : List Int} (h : Rd w v zs) : zs.length ≤ maxLen := by
  rcases h with ⟨rfl, -⟩ | ⟨g, off, cap, -, -, hm, -⟩
  · simp
  · exact hm
theorem Rd.at_ {w : World} {a : Option Addr} {n cap : Nat} {zs : List Int} (h : Rd w (.slice a n cap) zs) (hn : n = zs.length) (i : Nat) (hi : i < n) :
    ∃ g off, a = some ⟨g, off, none⟩ ∧ g < w.heap.size ∧ w.cell? ⟨g, off + i, none⟩ = some (.int .i64 (zs[i]?.getD 0)) := by
  rcases h with ⟨rfl, -⟩ | ⟨g, off, cap', hv, hg, hm, hc⟩
  · simp at hn; omega
  · simp only [Value.slice.injEq] at hv
    obtain ⟨rfl, -, -⟩ := hv
    exact ⟨g, off, rfl, hg, hc i (by omega)⟩
def sameB (a b : List Int) : Bool := decide (a = b)
theorem sameB_iff {a b : List Int} : sameB a b = true ↔ a = b := by simp [sameB]
theorem sameB_len {a b : List Int} (h : ¬ a.length = b.length) : sameB a b = false := by
  simp only [sameB, decide_eq_false_iff_not]; rintro rfl; exact h rfl
theorem sameB_no {a b : List Int} {k : Nat} (h : ¬ a[k]?.getD 0 = b[k]?.getD 0) : sameB a b = false := by
  simp only [sameB, decide_eq_false_iff_not]; rintro rfl; exact h rfl
theorem sameB_yes {a b : List Int} (hl : a.length = b.length) (h : ∀ j, j < a.length → a[j]?.getD 0 = b[j]?.getD 0) : sameB a b = true := by
  rw [sameB_iff]
  apply List.ext_getElem hl
  intro i h1 h2
  have := h i h1
  simpa [h1, h2] using this

theorem l1In_any (n lo hi : Int) (w : World) : Calls Tryd.prog 55 #[.int .i64 n, .int .i64 lo, .int .i64 hi] w fun e w' => e = .returned (.bool (inB n lo hi)) ∧ w = w' := by
  by_cases h0 : lo ≤ n
  · go_enter Tryd.func55, Tryd.ntmps55
    go_wp2
    go_ret
    exact ⟨ret_bool (by unfold inB; simp; try omega), rfl⟩
  · go_enter Tryd.func55, Tryd.ntmps55
    go_wp2
    go_ret
    exact ⟨ret_bool (by unfold inB; simp; try omega), rfl⟩
theorem isContent_any (n : Int) (w : World) : Calls Tryd.prog 108 #[.int .i64 n] w fun e w' => e = .returned (.bool (inB n 1 60)) ∧ w = w' := by
  by_cases h0 : 1 ≤ n
  · go_enter Tryd.func108, Tryd.ntmps108
    go_wp2
    go_ret
    exact ⟨ret_bool (by unfold inB; simp; try omega), rfl⟩
  · go_enter Tryd.func108, Tryd.ntmps108
    go_wp2
    go_ret
    exact ⟨ret_bool (by unfold inB; simp; try omega), rfl⟩

theorem l1Same_any (v1 v2 : Value) (zs ys : List Int) (w : World) (h1 : Rd w v1 zs) (h2 : Rd w v2 ys) :
    Calls Tryd.prog 72 #[v1, v2] w fun e w' => e = .returned (.bool (sameB zs ys)) ∧ ∃ n, w' = w.drewN n := by
  have m1 := h1.max
  have m2 := h2.max
  unfold maxLen at m1 m2
  obtain ⟨a1, c1, rfl⟩ := h1.len
  obtain ⟨a2, c2, rfl⟩ := h2.len
  by_cases hl : zs.length = ys.length
  · obtain ⟨n, hn⟩ : ∃ n, n = zs.length := ⟨_, rfl⟩
    rw [← hl, ← hn] at m2
    rw [← hn] at m1
    rw [← hl, ← hn]
    have HN := Lib.hid hn
    have HL := Lib.hid hl
    have H1 := Lib.hid h1
    have H2 := Lib.hid h2
    clear hn hl h1 h2
    go_enter Tryd.func72, Tryd.ntmps72
    go_wp2
    go_loopw [13] (fun i wr => ∃ k : Nat, k ≤ n ∧ i = .int .i64 k ∧ Hid (∀ j, j < k → zs[j]?.getD 0 = ys[j]?.getD 0) ∧ ∃ m, wr = w.drewN m) (fun i wr => n - (intOf i).toNat)
    case atStart => exact ⟨0, Nat.zero_le _, rfl, Lib.hid fun j hj => by omega, 0, rfl⟩
    case round =>
      obtain ⟨k, hk, rfl, hall, m, rfl⟩ := hrel
      by_cases hlt : k < n
      · obtain ⟨g1, o1, rfl, hg1, p1⟩ := H1.out.at_ (by rw [← HN.out]) k (by rw [← HN.out]; exact hlt)
        obtain ⟨g2, o2, rfl, hg2, p2⟩ := H2.out.at_ (by rw [← HL.out, ← HN.out]) k (by rw [← HL.out, ← HN.out]; exact hlt)
        by_cases he : zs[k]?.getD 0 = ys[k]?.getD 0
        · have hall' : Hid (∀ j, j < k + 1 → zs[j]?.getD 0 = ys[j]?.getD 0) := Lib.hid fun j hj => by
            by_cases e : j = k
            · rw [e]; exact he
            · exact hall.out j (by omega)
          rw [← he] at p2
          clear he
          go_wp2
          go_quiet (fail)
          go_wp2
          go_roundw
          case rel => exact ⟨k + 1, by omega, by go_num, hall', _, rfl⟩
          case measure => simp [intOf]; omega
        · have hne : (zs[k]?.getD 0 != ys[k]?.getD 0) = true := bne_iff_ne.2 he
          have hf := Lib.hid (sameB_no he)
          clear he
          go_wp2
          go_quiet (fail)
          go_wp2
          go_ret
          exact ⟨ret_bool hf.out.symm, _, World.drewN_drewN _ _ _⟩
      · have hf : Hid (sameB zs ys = true) := Lib.hid (sameB_yes HL.out fun j hj => hall.out j (by have := HN.out; omega))
        go_wp2
        go_ret
        exact ⟨ret_bool hf.out.symm, _, rfl⟩
  · have hf := Lib.hid (sameB_len hl)
    have hne : ((zs.length : Int) != (ys.length : Int)) = true := by rw [bne_iff_ne]; omega
    clear hl
    go_enter Tryd.func72, Tryd.ntmps72
    go_wp2
    go_ret
    exact ⟨ret_bool hf.out.symm, 0, rfl⟩

theorem slEqual_any (v1 v2 : Value) (zs ys : List Int) (w : World) (h1 : Rd w v1 zs) (h2 : Rd w v2 ys) :
    Calls Tryd.prog 77 #[v1, v2] w fun e w' => e = .returned (.bool (sameB zs ys)) ∧ ∃ n, w' = w.drewN n := by
  have m1 := h1.max
  have m2 := h2.max
  unfold maxLen at m1 m2
  obtain ⟨a1, c1, rfl⟩ := h1.len
  obtain ⟨a2, c2, rfl⟩ := h2.len
  by_cases hl : zs.length = ys.length
  · obtain ⟨n, hn⟩ : ∃ n, n = zs.length := ⟨_, rfl⟩
    rw [← hl, ← hn] at m2
    rw [← hn] at m1
    rw [← hl, ← hn]
    have HN := Lib.hid hn
    have HL := Lib.hid hl
    have H1 := Lib.hid h1
    have H2 := Lib.hid h2
    clear hn hl h1 h2
    go_enter Tryd.func77, Tryd.ntmps77
    go_wp2
    go_loopw [13] (fun i wr => ∃ k : Nat, k ≤ n ∧ i = .int .i64 k ∧ Hid (∀ j, j < k → zs[j]?.getD 0 = ys[j]?.getD 0) ∧ ∃ m, wr = w.drewN m) (fun i wr => n - (intOf i).toNat)
    case atStart => exact ⟨0, Nat.zero_le _, rfl, Lib.hid fun j hj => by omega, 0, rfl⟩
    case round =>
      obtain ⟨k, hk, rfl, hall, m, rfl⟩ := hrel
      by_cases hlt : k < n
      · obtain ⟨g1, o1, rfl, hg1, p1⟩ := H1.out.at_ (by rw [← HN.out]) k (by rw [← HN.out]; exact hlt)
        obtain ⟨g2, o2, rfl, hg2, p2⟩ := H2.out.at_ (by rw [← HL.out, ← HN.out]) k (by rw [← HL.out, ← HN.out]; exact hlt)
        by_cases he : zs[k]?.getD 0 = ys[k]?.getD 0
        · have hall' : Hid (∀ j, j < k + 1 → zs[j]?.getD 0 = ys[j]?.getD 0) := Lib.hid fun j hj => by
            by_cases e : j = k
            · rw [e]; exact he
            · exact hall.out j (by omega)
          rw [← he] at p2
          clear he
          go_wp2
          go_quiet (fail)
          go_wp2
          go_roundw
          case rel => exact ⟨k + 1, by omega, by go_num, hall', _, rfl⟩
          case measure => simp [intOf]; omega
        · have hne : (zs[k]?.getD 0 != ys[k]?.getD 0) = true := bne_iff_ne.2 he
          have hf := Lib.hid (sameB_no he)
          clear he
          go_wp2
          go_quiet (fail)
          go_wp2
          go_ret
          exact ⟨ret_bool hf.out.symm, _, World.drewN_drewN _ _ _⟩
      · have hf : Hid (sameB zs ys = true) := Lib.hid (sameB_yes HL.out fun j hj => hall.out j (by have := HN.out; omega))
        go_wp2
        go_ret
        exact ⟨ret_bool hf.out.symm, _, rfl⟩
  · have hf := Lib.hid (sameB_len hl)
    have hne : ((zs.length : Int) != (ys.length : Int)) = true := by rw [bne_iff_ne]; omega
    clear hl
    go_enter Tryd.func77, Tryd.ntmps77
    go_wp2
    go_ret
    exact ⟨ret_bool hf.out.symm, 0, rfl⟩

theorem l1All_any (v : Value) (zs : List Int) (lo hi : Int) (w : World) (hr : Rd w v zs) :
    Calls Tryd.prog 44 #[v, .int .i64 lo, .int .i64 hi] w fun e w' => e = .returned (.bool (allIn zs lo hi)) ∧ w = w' := by
  have hm := hr.max
  unfold maxLen at hm
  obtain ⟨a1, c1, rfl⟩ := hr.len
  obtain ⟨n, hn⟩ : ∃ n, n = zs.length := ⟨_, rfl⟩
  rw [← hn] at hm ⊢
  have HN := Lib.hid hn
  have HR := Lib.hid hr
  clear hn hr
  go_enter Tryd.func44, Tryd.ntmps44
  go_wp2
  go_loop [11] (fun i => ∃ k : Nat, k ≤ n ∧ i = .int .i64 k ∧ Hid (∀ j, j < k → inB (zs[j]?.getD 0) lo hi = true)) (fun i => n - (intOf i).toNat)
  case atStart => exact ⟨0, Nat.zero_le _, rfl, Lib.hid fun j hj => by omega⟩
  case round =>
    obtain ⟨k, hk, rfl, hall⟩ := hrel
    by_cases hlt : k < n
    · obtain ⟨g1, o1, rfl, hg1, q⟩ := HR.out.at_ (by rw [← HN.out]) k (by rw [← HN.out]; exact hlt)
      cases hb : inB (zs[k]?.getD 0) lo hi with
      | true =>
        have hall' : Hid (∀ j, j < k + 1 → inB (zs[j]?.getD 0) lo hi = true) := Lib.hid fun j hj => by
          by_cases e : j = k
          · rw [e]; exact hb
          · exact hall.out j (by omega)
        go_wp2_with (go_at_call 55; refine (l1In_any _ _ _ _).mono ?_; rintro e w' ⟨rfl, rfl⟩)
        go_round
        case rel => exact ⟨k + 1, by omega, by go_num, hall'⟩
        case measure => simp [intOf]; omega
      | false =>
        have hf := Lib.hid (allIn_false zs lo hi k (by rw [← HN.out]; exact hlt) hb)
        go_wp2_with (go_at_call 55; refine (l1In_any _ _ _ _).mono ?_; rintro e w' ⟨rfl, rfl⟩)
        go_ret
        exact ⟨ret_bool hf.out.symm, rfl⟩
    · have hf := Lib.hid (allIn_true zs lo hi fun j hj => hall.out j (by have := HN.out; omega))
      go_wp2
      go_ret
      exact ⟨ret_bool hf.out.symm, rfl⟩

theorem areContent_any (v : Value) (zs : List Int) (w : World) (hr : Rd w v zs) :
    Calls Tryd.prog 90 #[v] w fun e w' => e = .returned (.bool (allIn zs 1 60)) ∧ w = w' := by
  have hm := hr.max
  unfold maxLen at hm
  obtain ⟨a1, c1, rfl⟩ := hr.len
  obtain ⟨n, hn⟩ : ∃ n, n = zs.length := ⟨_, rfl⟩
  rw [← hn] at hm ⊢
  have HN := Lib.hid hn
  have HR := Lib.hid hr
  clear hn hr
  go_enter Tryd.func90, Tryd.ntmps90
  go_wp2
  go_loop [7] (fun i => ∃ k : Nat, k ≤ n ∧ i = .int .i64 k ∧ Hid (∀ j, j < k → inB (zs[j]?.getD 0) 1 60 = true)) (fun i => n - (intOf i).toNat)
  case atStart => exact ⟨0, Nat.zero_le _, rfl, Lib.hid fun j hj => by omega⟩
  case round =>
    obtain ⟨k, hk, rfl, hall⟩ := hrel
    by_cases hlt : k < n
    · obtain ⟨g1, o1, rfl, hg1, q⟩ := HR.out.at_ (by rw [← HN.out]) k (by rw [← HN.out]; exact hlt)
      cases hb : inB (zs[k]?.getD 0) 1 60 with
      | true =>
        have hall' : Hid (∀ j, j < k + 1 → inB (zs[j]?.getD 0) 1 60 = true) := Lib.hid fun j hj => by
          by_cases e : j = k
          · rw [e]; exact hb
          · exact hall.out j (by omega)
        go_wp2_with (go_at_call 108; refine (isContent_any _ _).mono ?_; rintro e w' ⟨rfl, rfl⟩)
        go_round
        case rel => exact ⟨k + 1, by omega, by go_num, hall'⟩
        case measure => simp [intOf]; omega
      | false =>
        have hf := Lib.hid (allIn_false zs 1 60 k (by rw [← HN.out]; exact hlt) hb)
        go_wp2_with (go_at_call 108; refine (isContent_any _ _).mono ?_; rintro e w' ⟨rfl, rfl⟩)
        go_ret
        exact ⟨ret_bool hf.out.symm, rfl⟩
    · have hf := Lib.hid (allIn_true zs 1 60 fun j hj => hall.out j (by have := HN.out; omega))
      go_wp2
      go_ret
      exact ⟨ret_bool hf.out.symm, rfl⟩

theorem sigB_short {zs : List Int} (h : ¬ 1 ≤ zs.length) : sigB zs = false := by simp [sigB, h]
theorem sigB_long {zs : List Int} (h : ¬ zs.length ≤ 3) : sigB zs = false := by simp [sigB, h]
theorem sigB_mid {zs : List Int} (h : 1 ≤ zs.length) (h' : zs.length ≤ 3) : sigB zs = allIn zs 1 60 := by simp [sigB, h, h']
theorem arePhraseSignals_any (v : Value) (zs : List Int) (w : World) (hr : Rd w v zs) :
    Calls Tryd.prog 74 #[v] w fun e w' => e = .returned (.bool (sigB zs)) ∧ w = w' := by
  have hm := hr.max
  unfold maxLen at hm
  obtain ⟨a1, c1, rfl⟩ := hr.len
  have HR := Lib.hid hr
  clear hr
  by_cases h1 : 1 ≤ zs.length
  · by_cases h3 : zs.length ≤ 3
    · have hf := Lib.hid (sigB_mid h1 h3)
      go_enter Tryd.func74, Tryd.ntmps74
      go_wp2_with (go_at_call 90; refine (areContent_any _ zs _ HR.out).mono ?_; rintro e w' ⟨rfl, rfl⟩)
      go_ret
      exact ⟨ret_bool hf.out.symm, rfl⟩
    · have hf := Lib.hid (sigB_long h3)
      go_enter Tryd.func74, Tryd.ntmps74
      go_wp2
      go_ret
      exact ⟨ret_bool hf.out.symm, rfl⟩
  · have hf := Lib.hid (sigB_short h1)
    go_enter Tryd.func74, Tryd.ntmps74
    go_wp2
    go_ret
    exact ⟨ret_bool hf.out.symm, rfl⟩
theorem bkSignals_any (v : Value) (zs : List Int) (w : World) (hr : Rd w v zs) :
    Calls Tryd.prog 53 #[v] w fun e w' => e = .returned (.bool (sigB zs)) ∧ w = w' := by
  have hm := hr.max
  unfold maxLen at hm
  obtain ⟨a1, c1, rfl⟩ := hr.len
  have HR := Lib.hid hr
  clear hr
  by_cases h : 1 ≤ zs.length ∧ zs.length ≤ 3
  · have hf := Lib.hid (sigB_mid h.1 h.2)
    have hi : inB (zs.length : Int) 1 3 = true := inB_yes (by omega) (by omega)
    go_enter Tryd.func53, Tryd.ntmps53
    go_wp2_with (first
      | (go_at_call 55; refine (l1In_any _ _ _ _).mono ?_; rintro e w' ⟨rfl, rfl⟩)
      | (go_at_call 44; refine (l1All_any _ zs 1 60 _ HR.out).mono ?_; rintro e w' ⟨rfl, rfl⟩))
    go_ret
    exact ⟨ret_bool hf.out.symm, rfl⟩
  · have hf : Hid (sigB zs = false) := Lib.hid (by by_cases h1 : 1 ≤ zs.length; exact sigB_long (fun h3 => h ⟨h1, h3⟩); exact sigB_short h1)
    have hi : inB (zs.length : Int) 1 3 = false := inB_no (by omega)
    go_enter Tryd.func53, Tryd.ntmps53
    go_wp2_with (go_at_call 55; refine (l1In_any _ _ _ _).mono ?_; rintro e w' ⟨rfl, rfl⟩)
    go_ret
    exact ⟨ret_bool hf.out.symm, rfl⟩
end Go.Proofs.YtkmdionldaejjaaDoor
