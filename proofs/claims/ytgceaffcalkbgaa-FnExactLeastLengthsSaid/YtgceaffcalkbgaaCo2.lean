/- Chapter 4: costs and sums of Kraft. -/
import Derived.Test.YtgceaffcalkbgaaCo1
namespace Go.Proofs.Ytgceaffcalkbgaa
open Go.RowKit
set_option linter.unusedSimpArgs false
set_option linter.unusedVariables false

def nth (zs : List Int) (i : Nat) : Int := zs[i]?.getD 0
def cosTo (ws ls : List Int) : Nat → Int
  | 0 => 0
  | k + 1 => cosTo ws ls k + nth ws k * nth ls k
def costL (ws ls : List Int) : Int := cosTo ws ls ws.length
def coB (ws ls : List Int) : Bool := wtB ws && lgB ls && decide (ws.length = ls.length)
theorem mul_bd {a b A B : Int} (a0 : 0 ≤ a) (a1 : a ≤ A) (b0 : 0 ≤ b) (b1 : b ≤ B) : 0 ≤ a * b ∧ a * b ≤ A * B :=
  ⟨Int.mul_nonneg a0 b0, Int.mul_le_mul a1 b1 b0 (by omega)⟩
theorem cosTo_bd {ws ls : List Int} (hw : wtB ws = true) (hl : lgB ls = true) (h : ws.length = ls.length) (k : Nat) (hk : k ≤ ws.length) : 0 ≤ cosTo ws ls k ∧ cosTo ws ls k ≤ 60000 * k := by
  induction k with
  | zero => simp [cosTo]
  | succ k ih =>
    have := ih (by omega)
    have a := wtB_get hw k (by omega)
    have b := lgB_get hl k (by omega)
    have := mul_bd a.1 a.2 (by omega) b.2
    simp only [cosTo, nth]
    omega

theorem cmCost_any (v1 v2 : Value) (ws ls : List Int) (w : World) (h1 : Rd w v1 ws) (h2 : Rd w v2 ls) (hc : coB ws ls = true) :
    Calls Try.prog 61 #[v1, v2] w fun e w' => e = .returned (.int .i64 (costL ws ls)) ∧ w = w' := by
  simp only [coB, Bool.and_eq_true, decide_eq_true_eq] at hc
  obtain ⟨⟨hw, hl⟩, he⟩ := hc
  have h20 := wtB_len hw
  obtain ⟨a1, c1, rfl⟩ := h1.len
  obtain ⟨a2, c2, rfl⟩ := h2.len
  unfold costL
  obtain ⟨n, hn⟩ : ∃ n, n = ws.length := ⟨_, rfl⟩
  rw [← he]
  rw [← hn] at h20 ⊢
  have HN := Lib.hid hn
  have HL := Lib.hid he
  have H1 := Lib.hid h1
  have H2 := Lib.hid h2
  have HW := Lib.hid hw
  have HG := Lib.hid hl
  clear hn h1 h2 hw hl he
  go_enter Try.func61, Try.ntmps61
  go_wp2
  go_loop [5, 10] (fun t i => ∃ k : Nat, k ≤ n ∧ i = .int .i64 k ∧ t = .int .i64 (cosTo ws ls k)) (fun t i => n - (intOf i).toNat)
  case atStart => exact ⟨0, Nat.zero_le _, rfl, rfl⟩
  case round =>
    obtain ⟨k, hk, rfl, rfl⟩ := hrel
    by_cases hlt : k < n
    · obtain ⟨g1, o1, e1, hg1, p1⟩ := H1.out.at_ (by rw [← HN.out]) k (by rw [← HN.out]; exact hlt)
      obtain ⟨g2, o2, e2, hg2, p2⟩ := H2.out.at_ (by rw [← HL.out, ← HN.out]) k (by rw [← HL.out, ← HN.out]; exact hlt)
      subst e1
      subst e2
      have a := wtB_get HW.out k (by rw [← HN.out]; exact hlt)
      have b := lgB_get HG.out k (by rw [← HL.out, ← HN.out]; exact hlt)
      have c := cosTo_bd HW.out HG.out HL.out k (by rw [← HN.out]; omega)
      have hs : Hid (cosTo ws ls (k + 1) = cosTo ws ls k + ls[k]?.getD 0 * ws[k]?.getD 0) := Lib.hid (by simp only [cosTo, nth]; rw [Int.mul_comm])
      obtain ⟨x, hx⟩ : ∃ x, x = ws[k]?.getD 0 := ⟨_, rfl⟩
      obtain ⟨y, hy⟩ : ∃ y, y = ls[k]?.getD 0 := ⟨_, rfl⟩
      rw [← hx] at a hs p1
      rw [← hy] at b hs p2
      have d := mul_bd (show 0 ≤ y by omega) b.2 a.1 a.2
      clear hx hy
      go_wp2
      go_round
      case rel => exact ⟨k + 1, by omega, by go_num, by rw [hs.out]⟩
      case measure => simp [intOf]; omega
    · have : k = n := by omega
      subst this
      go_wp2
      go_ret
      exact ⟨rfl, rfl⟩

def okI (c : Bool) (x : Int) : Int := if c then x else 0
theorem okI_yes {c : Bool} {x : Int} (h : c = true) : okI c x = x := by simp [okI, h]
theorem okI_no {c : Bool} {x : Int} (h : c = false) : okI c x = 0 := by simp [okI, h]

theorem specCost_any (v1 v2 : Value) (ws ls : List Int) (w : World) (h1 : Rd w v1 ws) (h2 : Rd w v2 ls) :
    Calls Try.prog 21 #[v1, v2] w fun e w' => e = .returned (.tuple #[.int .i64 (okI (coB ws ls) (costL ws ls)), .bool (coB ws ls)]) ∧ Below w.heap.size w w' := by
  have m1 := h1.max
  have m2 := h2.max
  unfold maxLen at m1 m2
  obtain ⟨a1, c1, rfl⟩ := h1.len
  obtain ⟨a2, c2, rfl⟩ := h2.len
  have H1 := Lib.hid h1
  have H2 := Lib.hid h2
  clear h1 h2
  cases hw : wtB ws with
  | false =>
    have hf : Hid (coB ws ls = false) := Lib.hid (by simp [coB, hw])
    go_enter Try.func21, Try.ntmps21
    go_wp2_with (go_at_call 66; refine (cmWeights_any _ ws _ H1.out).mono ?_; rintro e w' ⟨rfl, rfl⟩)
    go_ret2
    exact ⟨by rw [hf.out, okI_no rfl]; rfl, Below.refl _ _⟩
  | true =>
    cases hl : lgB ls with
    | false =>
      have hf : Hid (coB ws ls = false) := Lib.hid (by simp [coB, hl])
      go_enter Try.func21, Try.ntmps21
      go_wp2_with (first
        | (go_at_call 66; refine (cmWeights_any _ ws _ H1.out).mono ?_; rintro e w' ⟨rfl, rfl⟩)
        | (go_at_call 67; refine (cmGood_any _ ls _ H2.out).mono ?_; rintro e w' ⟨rfl, rfl⟩))
      go_ret2
      exact ⟨by rw [hf.out, okI_no rfl]; rfl, Below.refl _ _⟩
    | true =>
      by_cases he : ws.length = ls.length
      · have hf : Hid (coB ws ls = true) := Lib.hid (by simp [coB, hw, hl, he])
        have hq : ((ls.length : Int) != (ws.length : Int)) = false := by rw [he]; simp
        clear he
        go_enter Try.func21, Try.ntmps21
        go_wp2_with (first
          | (go_at_call 66; refine (cmWeights_any _ ws _ H1.out).mono ?_; rintro e w' ⟨rfl, rfl⟩)
          | (go_at_call 67; refine (cmGood_any _ ls _ H2.out).mono ?_; rintro e w' ⟨rfl, rfl⟩)
          | (go_at_call 61; refine (cmCost_any _ _ ws ls _ H1.out H2.out hf.out).mono ?_; rintro e w' ⟨rfl, rfl⟩))
        go_ret2
        exact ⟨by rw [hf.out, okI_yes rfl]; rfl, Below.refl _ _⟩
      · have hf : Hid (coB ws ls = false) := Lib.hid (by simp [coB, he])
        have hq : ((ls.length : Int) != (ws.length : Int)) = true := by rw [bne_iff_ne]; omega
        clear he
        go_enter Try.func21, Try.ntmps21
        go_wp2_with (first
          | (go_at_call 66; refine (cmWeights_any _ ws _ H1.out).mono ?_; rintro e w' ⟨rfl, rfl⟩)
          | (go_at_call 67; refine (cmGood_any _ ls _ H2.out).mono ?_; rintro e w' ⟨rfl, rfl⟩))
        go_ret2
        exact ⟨by rw [hf.out, okI_no rfl]; rfl, Below.refl _ _⟩

theorem implCost_any (v1 v2 : Value) (ws ls : List Int) (w : World) (h1 : Rd w v1 ws) (h2 : Rd w v2 ls) :
    Calls Try.prog 20 #[v1, v2] w fun e w' => e = .returned (.tuple #[.int .i64 (okI (coB ws ls) (costL ws ls)), .bool (coB ws ls)]) ∧ Below w.heap.size w w' := by
  have m1 := h1.max
  have m2 := h2.max
  unfold maxLen at m1 m2
  obtain ⟨a1, c1, rfl⟩ := h1.len
  obtain ⟨a2, c2, rfl⟩ := h2.len
  have H1 := Lib.hid h1
  have H2 := Lib.hid h2
  clear h1 h2
  cases hw : wtB ws with
  | false =>
    have hf : Hid (coB ws ls = false) := Lib.hid (by simp [coB, hw])
    go_enter Try.func20, Try.ntmps20
    go_wp2_with (go_at_call 52; refine (areWeights_any _ ws _ H1.out).mono ?_; rintro e w' ⟨rfl, rfl⟩)
    go_ret2
    exact ⟨by rw [hf.out, okI_no rfl]; rfl, Below.refl _ _⟩
  | true =>
    cases hl : lgB ls with
    | false =>
      have hf : Hid (coB ws ls = false) := Lib.hid (by simp [coB, hl])
      go_enter Try.func20, Try.ntmps20
      go_wp2_with (first
        | (go_at_call 52; refine (areWeights_any _ ws _ H1.out).mono ?_; rintro e w' ⟨rfl, rfl⟩)
        | (go_at_call 65; refine (areLengths_any _ ls _ H2.out).mono ?_; rintro e w' ⟨rfl, rfl⟩))
      go_ret2
      exact ⟨by rw [hf.out, okI_no rfl]; rfl, Below.refl _ _⟩
    | true =>
      by_cases he : ws.length = ls.length
      · have hf : Hid (coB ws ls = true) := Lib.hid (by simp [coB, hw, hl, he])
        have hu : Hid (costL ws ls = cosTo ws ls ws.length) := Lib.hid rfl
        have h20 := wtB_len hw
        obtain ⟨n, hn⟩ : ∃ n, n = ws.length := ⟨_, rfl⟩
        rw [← he] at m2 ⊢
        rw [← hn] at h20 m1 m2 hu ⊢
        have HN := Lib.hid hn
        have HL := Lib.hid he
        have HW := Lib.hid hw
        have HG := Lib.hid hl
        clear hn he
        go_enter Try.func20, Try.ntmps20
        go_wp2_with (first
          | (go_at_call 52; refine (areWeights_any _ ws _ (by have := H1.out; rw [← HN.out] at this; exact this)).mono ?_; rintro e w' ⟨rfl, rfl⟩)
          | (go_at_call 65; refine (areLengths_any _ ls _ (by have := H2.out; rw [← HL.out, ← HN.out] at this; exact this)).mono ?_; rintro e w' ⟨rfl, rfl⟩))
        go_loop [6, 26] (fun t i => ∃ k : Nat, k ≤ n ∧ i = .int .i64 k ∧ t = .int .i64 (cosTo ws ls k)) (fun t i => n - (intOf i).toNat)
        case atStart => exact ⟨0, Nat.zero_le _, rfl, rfl⟩
        case round =>
          obtain ⟨k, hk, rfl, rfl⟩ := hrel
          by_cases hlt : k < n
          · obtain ⟨g1, o1, e1, hg1, p1⟩ := H1.out.at_ (by rw [← HN.out]) k (by rw [← HN.out]; exact hlt)
            obtain ⟨g2, o2, e2, hg2, p2⟩ := H2.out.at_ (by rw [← HL.out, ← HN.out]) k (by rw [← HL.out, ← HN.out]; exact hlt)
            subst e1
            subst e2
            have a := wtB_get HW.out k (by rw [← HN.out]; exact hlt)
            have b := lgB_get HG.out k (by rw [← HL.out, ← HN.out]; exact hlt)
            have c := cosTo_bd HW.out HG.out HL.out k (by rw [← HN.out]; omega)
            have hs : Hid (cosTo ws ls (k + 1) = cosTo ws ls k + ws[k]?.getD 0 * ls[k]?.getD 0) := Lib.hid (by simp only [cosTo, nth])
            obtain ⟨x, hx⟩ : ∃ x, x = ws[k]?.getD 0 := ⟨_, rfl⟩
            obtain ⟨y, hy⟩ : ∃ y, y = ls[k]?.getD 0 := ⟨_, rfl⟩
            rw [← hx] at a hs p1
            rw [← hy] at b hs p2
            have d := mul_bd a.1 a.2 (show 0 ≤ y by omega) b.2
            clear hx hy
            go_wp2
            go_round
            case rel => exact ⟨k + 1, by omega, by go_num, by rw [hs.out]⟩
            case measure => simp [intOf]; omega
          · have : k = n := by omega
            subst this
            go_wp2
            go_ret2
            exact ⟨by rw [hf.out, okI_yes rfl, hu.out]; rfl, Below.refl _ _⟩
      · have hf : Hid (coB ws ls = false) := Lib.hid (by simp [coB, he])
        have hq : ((ws.length : Int) != (ls.length : Int)) = true := by rw [bne_iff_ne]; omega
        clear he
        go_enter Try.func20, Try.ntmps20
        go_wp2_with (first
          | (go_at_call 52; refine (areWeights_any _ ws _ H1.out).mono ?_; rintro e w' ⟨rfl, rfl⟩)
          | (go_at_call 65; refine (areLengths_any _ ls _ H2.out).mono ?_; rintro e w' ⟨rfl, rfl⟩))
        go_ret2
        exact ⟨by rw [hf.out, okI_no rfl]; rfl, Below.refl _ _⟩

/-! ### Sums of Kraft -/
def mxTo (ls : List Int) : Nat → Int
  | 0 => 0
  | k + 1 => max (mxTo ls k) (nth ls k)
def mxL (ls : List Int) : Int := mxTo ls ls.length
theorem mxTo_bd {ls : List Int} (hl : lgB ls = true) (k : Nat) (hk : k ≤ ls.length) : 0 ≤ mxTo ls k ∧ mxTo ls k ≤ 6 := by
  induction k with
  | zero => simp [mxTo]
  | succ k ih =>
    have := ih (by omega)
    have b := lgB_get hl k (by omega)
    simp only [mxTo, nth]
    omega
theorem mxTo_ge {ls : List Int} (k j : Nat) (hj : j < k) : nth ls j ≤ mxTo ls k := by
  induction k with
  | zero => omega
  | succ k ih =>
    simp only [mxTo]
    by_cases e : j = k
    · subst e; omega
    · have := ih (by omega); omega
theorem mxTo_one {ls : List Int} (hl : lgB ls = true) : mxTo ls 1 = nth ls 0 := by
  have b := lgB_get hl 0 (by have := lgB_len hl; omega)
  simp only [mxTo, nth]; omega
def krTo (r m : Int) (ls : List Int) : Nat → Int
  | 0 => 0
  | k + 1 => krTo r m ls k + pw r (m - nth ls k).toNat
def krL (r : Int) (ls : List Int) : Int := krTo r (mxL ls) ls ls.length
def krW (r : Int) (ls : List Int) : Int := pw r (mxL ls).toNat
theorem krTo_bd {r m : Int} {ls : List Int} (hr : baB r = true) (hl : lgB ls = true) (hm : m ≤ 6) (k : Nat) (hk : k ≤ ls.length) : 0 ≤ krTo r m ls k ∧ krTo r m ls k ≤ 46656000000 * k := by
  obtain ⟨r1, r2⟩ := inB_iff.1 hr
  induction k with
  | zero => simp [krTo]
  | succ k ih =>
    have := ih (by omega)
    have b := lgB_get hl k (by omega)
    have := pw_bd r1 r2 (k := (m - nth ls k).toNat) (by unfold nth; omega)
    simp only [krTo]
    omega
def kfB (ls : List Int) (r : Int) : Bool := lgB ls && baB r

theorem power_int (r e : Int) (w : World) (h : 2 ≤ r) (h' : r ≤ 60) (h0 : 0 ≤ e) (hn : e ≤ 6) :
    Calls Try.prog 68 #[.int .i64 r, .int .i64 e] w fun x w' => x = .returned (.int .i64 (pw r e.toNat)) ∧ w = w' := by
  obtain ⟨n, rfl⟩ := Int.eq_ofNat_of_zero_le h0
  exact power_any r n w h h' (by omega)
theorem cmPower_int (r e : Int) (w : World) (h : 2 ≤ r) (h' : r ≤ 60) (h0 : 0 ≤ e) (hn : e ≤ 6) :
    Calls Try.prog 71 #[.int .i64 r, .int .i64 e] w fun x w' => x = .returned (.int .i64 (pw r e.toNat)) ∧ w = w' := by
  obtain ⟨n, rfl⟩ := Int.eq_ofNat_of_zero_le h0
  exact cmPower_any r n w h h' (by omega)
theorem l1Most_any (a b : Int) (w : World) : Calls Try.prog 99 #[.int .i64 a, .int .i64 b] w fun e w' => e = .returned (.int .i64 (max a b)) ∧ w = w' := by
  by_cases h : b < a
  · go_enter Try.func99, Try.ntmps99
    go_wp2
    go_ret
    exact ⟨ret_int (by omega), rfl⟩
  · have h : a ≤ b := by omega
    go_enter Try.func99, Try.ntmps99
    go_wp2
    go_ret
    exact ⟨ret_int (by omega), rfl⟩

set_option maxHeartbeats 400000 in
theorem slMax_any (v : Value) (ls : List Int) (w : World) (hr : Rd w v ls) (hl : lgB ls = true) :
    Calls Try.prog 78 #[v] w fun e w' => e = .returned (.int .i64 (mxL ls)) ∧ w = w' := by
  have h20 := lgB_len hl
  obtain ⟨a, cap, rfl⟩ := hr.len
  have hx0 := mxTo_one hl
  have HU : Hid (mxL ls = mxTo ls ls.length) := Lib.hid rfl
  obtain ⟨n, hn⟩ : ∃ n, n = ls.length := ⟨_, rfl⟩
  rw [← hn] at h20 HU ⊢
  have HN := Lib.hid hn
  have HR := Lib.hid hr
  have HL := Lib.hid hl
  clear hn hr hl
  obtain ⟨g0, o0, e0, hg0, p0⟩ := HR.out.at_ (by rw [← HN.out]) 0 (by rw [← HN.out]; omega)
  subst e0
  rw [Nat.add_zero] at p0
  have hx1 : Hid (ls[0]?.getD 0 = mxTo ls 1) := Lib.hid hx0.symm
  clear hx0
  rw [hx1.out] at p0
  go_enter Try.func78, Try.ntmps78
  go_wp2
  go_loop [3, 4] (fun t i => ∃ k : Nat, 1 ≤ k ∧ k ≤ n ∧ i = .int .i64 k ∧ t = .int .i64 (mxTo ls k)) (fun t i => n - (intOf i).toNat)
  case atStart => exact ⟨1, Nat.le_refl _, by omega, rfl, rfl⟩
  case round =>
    obtain ⟨k, hk1, hk, rfl, rfl⟩ := hrel
    by_cases hlt : k < n
    · obtain ⟨g1, o1, e1, hg1, p1⟩ := HR.out.at_ (by rw [← HN.out]) k (by rw [← HN.out]; exact hlt)
      simp only [Option.some.injEq, Addr.mk.injEq, and_true] at e1
      obtain ⟨rfl, rfl⟩ := e1
      have hs : Hid (mxTo ls (k + 1) = if mxTo ls k < ls[k]?.getD 0 then ls[k]?.getD 0 else mxTo ls k) := Lib.hid (by simp only [mxTo, nth]; split <;> omega)
      go_wp2
      go_round
      case rel => exact ⟨k + 1, by omega, by omega, by go_num, by rw [hs.out]⟩
      case measure => simp [intOf]; omega
    · have : k = n := by omega
      subst this
      go_wp2
      go_ret
      exact ⟨ret_int HU.out.symm, rfl⟩

set_option maxHeartbeats 800000 in
theorem cmKraft_any (v : Value) (ls : List Int) (r : Int) (w : World) (hr : Rd w v ls) (hk : kfB ls r = true) :
    Calls Try.prog 79 #[v, .int .i64 r] w fun e w' => e = .returned (.tuple #[.int .i64 (krL r ls), .int .i64 (krW r ls)]) ∧ w = w' := by
  simp only [kfB, Bool.and_eq_true] at hk
  obtain ⟨hl, hb⟩ := hk
  obtain ⟨r1, r2⟩ := inB_iff.1 hb
  have h20 := lgB_len hl
  obtain ⟨a, cap, rfl⟩ := hr.len
  have HU : Hid (mxL ls = mxTo ls ls.length) := Lib.hid rfl
  have HV : Hid (krL r ls = krTo r (mxL ls) ls ls.length) := Lib.hid rfl
  obtain ⟨n, hn⟩ : ∃ n, n = ls.length := ⟨_, rfl⟩
  rw [← hn] at h20 HU HV ⊢
  have HN := Lib.hid hn
  have HR := Lib.hid hr
  have HL := Lib.hid hl
  have HB := Lib.hid hb
  clear hn hr hl hb
  go_enter Try.func79, Try.ntmps79
  go_wp2
  go_loop [6, 14] (fun t i => ∃ k : Nat, k ≤ n ∧ i = .int .i64 k ∧ t = .int .i64 (mxTo ls k)) (fun t i => n - (intOf i).toNat)
  case atStart => exact ⟨0, Nat.zero_le _, rfl, rfl⟩
  case round =>
    obtain ⟨k, hk, rfl, rfl⟩ := hrel
    by_cases hlt : k < n
    · obtain ⟨g1, o1, e1, hg1, p1⟩ := HR.out.at_ (by rw [← HN.out]) k (by rw [← HN.out]; exact hlt)
      subst e1
      have hs : Hid (mxTo ls (k + 1) = max (mxTo ls k) (ls[k]?.getD 0)) := Lib.hid rfl
      go_wp2_with (go_at_call 99; refine (l1Most_any _ _ _).mono ?_; rintro e w' ⟨rfl, rfl⟩)
      go_round
      case rel => exact ⟨k + 1, by omega, by go_num, by rw [hs.out]⟩
      case measure => simp [intOf]; omega
    · have : k = n := by omega
      subst this
      have hmb := mxTo_bd HL.out k (by rw [← HN.out]; omega)
      rw [← HU.out] at hmb ⊢
      have hge : Hid (∀ j, j < k → nth ls j ≤ mxL ls) := Lib.hid fun j hj => by rw [HU.out]; exact mxTo_ge k j hj
      go_wp2
      go_loop [9, 24] (fun t i => ∃ j : Nat, j ≤ k ∧ i = .int .i64 j ∧ t = .int .i64 (krTo r (mxL ls) ls j)) (fun t i => k - (intOf i).toNat)
      case atStart => exact ⟨0, Nat.zero_le _, rfl, rfl⟩
      case round =>
        obtain ⟨j, hj, rfl, rfl⟩ := hrel
        by_cases hlt : j < k
        · obtain ⟨g1, o1, e1, hg1, p1⟩ := HR.out.at_ (by rw [← HN.out]) j (by rw [← HN.out]; exact hlt)
          subst e1
          have a1 := lgB_get HL.out j (by rw [← HN.out]; exact hlt)
          have a2 := hge.out j hlt
          unfold nth at a2
          have a3 := krTo_bd HB.out HL.out hmb.2 j (by rw [← HN.out]; omega)
          have hs : Hid (krTo r (mxL ls) ls (j + 1) = krTo r (mxL ls) ls j + pw r (mxL ls - ls[j]?.getD 0).toNat) := Lib.hid rfl
          obtain ⟨x, hx⟩ : ∃ x, x = ls[j]?.getD 0 := ⟨_, rfl⟩
          rw [← hx] at a1 a2 hs p1
          have a4 := pw_bd r1 r2 (k := (mxL ls - x).toNat) (by omega)
          clear hx
          go_wp2_with (go_at_call 71; refine (cmPower_int _ _ _ r1 r2 (by omega) (by omega)).mono ?_; rintro e w' ⟨rfl, rfl⟩)
          go_round
          case rel => exact ⟨j + 1, by omega, by go_num, by rw [hs.out]⟩
          case measure => simp [intOf]; omega
        · have : j = k := by omega
          subst this
          go_wp2_with (go_at_call 71; refine (cmPower_int _ _ _ r1 r2 (by omega) (by omega)).mono ?_; rintro e w' ⟨rfl, rfl⟩)
          go_ret2
          exact ⟨by rw [HV.out]; rfl, rfl⟩

theorem specKraft_any (v : Value) (ls : List Int) (r : Int) (w : World) (h1 : Rd w v ls) :
    Calls Try.prog 32 #[v, .int .i64 r] w fun e w' => e = .returned (.tuple #[.int .i64 (okI (kfB ls r) (krL r ls)), .int .i64 (okI (kfB ls r) (krW r ls)), .bool (kfB ls r)]) ∧ Below w.heap.size w w' := by
  obtain ⟨a1, c1, rfl⟩ := h1.len
  have H1 := Lib.hid h1
  clear h1
  cases hl : lgB ls with
  | false =>
    have hf : Hid (kfB ls r = false) := Lib.hid (by simp [kfB, hl])
    go_enter Try.func32, Try.ntmps32
    go_wp2_with (go_at_call 67; refine (cmGood_any _ ls _ H1.out).mono ?_; rintro e w' ⟨rfl, rfl⟩)
    go_ret3
    exact ⟨by rw [hf.out, okI_no rfl, okI_no rfl]; rfl, Below.refl _ _⟩
  | true =>
    cases hb : baB r with
    | false =>
      have hf : Hid (kfB ls r = false) := Lib.hid (by simp [kfB, hb])
      go_enter Try.func32, Try.ntmps32
      go_wp2_with (first
        | (go_at_call 67; refine (cmGood_any _ ls _ H1.out).mono ?_; rintro e w' ⟨rfl, rfl⟩)
        | (go_at_call 70; refine (cmBase_any _ _).mono ?_; rintro e w' ⟨rfl, rfl⟩))
      go_ret3
      exact ⟨by rw [hf.out, okI_no rfl, okI_no rfl]; rfl, Below.refl _ _⟩
    | true =>
      have hf : Hid (kfB ls r = true) := Lib.hid (by simp [kfB, hb, hl])
      go_enter Try.func32, Try.ntmps32
      go_wp2_with (first
        | (go_at_call 67; refine (cmGood_any _ ls _ H1.out).mono ?_; rintro e w' ⟨rfl, rfl⟩)
        | (go_at_call 70; refine (cmBase_any _ _).mono ?_; rintro e w' ⟨rfl, rfl⟩)
        | (go_at_call 79; refine (cmKraft_any _ ls _ _ H1.out hf.out).mono ?_; rintro e w' ⟨rfl, rfl⟩))
      go_ret3
      exact ⟨by rw [hf.out, okI_yes rfl, okI_yes rfl]; rfl, Below.refl _ _⟩

set_option maxHeartbeats 800000 in
theorem implKraft_any (v : Value) (ls : List Int) (r : Int) (w : World) (h1 : Rd w v ls) :
    Calls Try.prog 31 #[v, .int .i64 r] w fun e w' => e = .returned (.tuple #[.int .i64 (okI (kfB ls r) (krL r ls)), .int .i64 (okI (kfB ls r) (krW r ls)), .bool (kfB ls r)]) ∧ Below w.heap.size w w' := by
  obtain ⟨a, cap, rfl⟩ := h1.len
  have H1 := Lib.hid h1
  clear h1
  cases hl : lgB ls with
  | false =>
    have hf : Hid (kfB ls r = false) := Lib.hid (by simp [kfB, hl])
    go_enter Try.func31, Try.ntmps31
    go_wp2_with (go_at_call 65; refine (areLengths_any _ ls _ H1.out).mono ?_; rintro e w' ⟨rfl, rfl⟩)
    go_ret3
    exact ⟨by rw [hf.out, okI_no rfl, okI_no rfl]; rfl, Below.refl _ _⟩
  | true =>
    cases hb : baB r with
    | false =>
      have hf : Hid (kfB ls r = false) := Lib.hid (by simp [kfB, hb])
      go_enter Try.func31, Try.ntmps31
      go_wp2_with (first
        | (go_at_call 65; refine (areLengths_any _ ls _ H1.out).mono ?_; rintro e w' ⟨rfl, rfl⟩)
        | (go_at_call 53; refine (isBase_any _ _).mono ?_; rintro e w' ⟨rfl, rfl⟩))
      go_ret3
      exact ⟨by rw [hf.out, okI_no rfl, okI_no rfl]; rfl, Below.refl _ _⟩
    | true =>
      have hf : Hid (kfB ls r = true) := Lib.hid (by simp [kfB, hb, hl])
      obtain ⟨r1, r2⟩ := inB_iff.1 hb
      have h20 := lgB_len hl
      have hmb := mxTo_bd hl ls.length (Nat.le_refl _)
      have hge : Hid (∀ j, j < ls.length → nth ls j ≤ mxL ls) := Lib.hid fun j hj => mxTo_ge ls.length j hj
      have HV : Hid (krL r ls = krTo r (mxL ls) ls ls.length) := Lib.hid rfl
      have hU : mxTo ls ls.length = mxL ls := rfl
      rw [hU] at hmb
      clear hU
      obtain ⟨n, hn⟩ : ∃ n, n = ls.length := ⟨_, rfl⟩
      rw [← hn] at h20 HV hge ⊢
      have HN := Lib.hid hn
      have HL := Lib.hid hl
      have HB := Lib.hid hb
      clear hn
      go_enter Try.func31, Try.ntmps31
      go_wp2_with (first
        | (go_at_call 65; refine (areLengths_any _ ls _ (by have := H1.out; rw [← HN.out] at this; exact this)).mono ?_; rintro e w' ⟨rfl, rfl⟩)
        | (go_at_call 53; refine (isBase_any _ _).mono ?_; rintro e w' ⟨rfl, rfl⟩)
        | (go_at_call 78; refine (slMax_any _ ls _ (by have := H1.out; rw [← HN.out] at this; exact this) HL.out).mono ?_; rintro e w' ⟨rfl, rfl⟩))
      go_loop [8, 23] (fun t i => ∃ j : Nat, j ≤ n ∧ i = .int .i64 j ∧ t = .int .i64 (krTo r (mxL ls) ls j)) (fun t i => n - (intOf i).toNat)
      case atStart => exact ⟨0, Nat.zero_le _, rfl, rfl⟩
      case round =>
        obtain ⟨j, hj, rfl, rfl⟩ := hrel
        by_cases hlt : j < n
        · obtain ⟨g1, o1, e1, hg1, p1⟩ := H1.out.at_ (by rw [← HN.out]) j (by rw [← HN.out]; exact hlt)
          subst e1
          have a1 := lgB_get HL.out j (by rw [← HN.out]; exact hlt)
          have a2 := hge.out j hlt
          unfold nth at a2
          have a3 := krTo_bd HB.out HL.out hmb.2 j (by rw [← HN.out]; omega)
          have hs : Hid (krTo r (mxL ls) ls (j + 1) = krTo r (mxL ls) ls j + pw r (mxL ls - ls[j]?.getD 0).toNat) := Lib.hid rfl
          obtain ⟨x, hx⟩ : ∃ x, x = ls[j]?.getD 0 := ⟨_, rfl⟩
          rw [← hx] at a1 a2 hs p1
          have a4 := pw_bd r1 r2 (k := (mxL ls - x).toNat) (by omega)
          clear hx
          go_wp2_with (go_at_call 68; refine (power_int _ _ _ r1 r2 (by omega) (by omega)).mono ?_; rintro e w' ⟨rfl, rfl⟩)
          go_round
          case rel => exact ⟨j + 1, by omega, by go_num, by rw [hs.out]⟩
          case measure => simp [intOf]; omega
        · have : j = n := by omega
          subst this
          go_wp2_with (go_at_call 68; refine (power_int _ _ _ r1 r2 (by omega) (by omega)).mono ?_; rintro e w' ⟨rfl, rfl⟩)
          go_ret3
          exact ⟨by rw [hf.out, okI_yes rfl, okI_yes rfl, HV.out]; rfl, Below.refl _ _⟩

/-- Is there a code? -/
def hasB (ls : List Int) (r : Int) : Bool := decide (krL r ls ≤ krW r ls)
theorem implHas_any (v : Value) (ls : List Int) (r : Int) (w : World) (h1 : Rd w v ls) :
    Calls Try.prog 26 #[v, .int .i64 r] w fun e w' => e = .returned (.tuple #[.bool (kfB ls r && hasB ls r), .bool (kfB ls r)]) ∧ Below w.heap.size w w' := by
  have H1 := Lib.hid h1
  clear h1
  cases hk : kfB ls r with
  | false =>
    go_enter Try.func26, Try.ntmps26
    go_wp2_with fail
    refine (implKraft_any _ ls _ _ H1.out).mono ?_
    rintro e w1 ⟨rfl, hb1⟩
    rw [hk]
    go_wp2
    go_ret2
    exact ⟨rfl, hb1⟩
  | true =>
    go_enter Try.func26, Try.ntmps26
    go_wp2_with fail
    refine (implKraft_any _ ls _ _ H1.out).mono ?_
    rintro e w1 ⟨rfl, hb1⟩
    rw [hk, okI_yes rfl, okI_yes rfl]
    go_wp2
    go_ret2
    exact ⟨rfl, hb1⟩
theorem cmHas_any (v : Value) (ls : List Int) (r : Int) (w : World) (h1 : Rd w v ls) (hk : kfB ls r = true) :
    Calls Try.prog 72 #[v, .int .i64 r] w fun e w' => e = .returned (.bool (hasB ls r)) ∧ w = w' := by
  go_enter Try.func72, Try.ntmps72
  go_wp2_with (go_at_call 79; refine (cmKraft_any _ ls _ _ h1 hk).mono ?_; rintro e w' ⟨rfl, rfl⟩)
  go_ret
  exact ⟨rfl, rfl⟩
theorem specHas_any (v : Value) (ls : List Int) (r : Int) (w : World) (h1 : Rd w v ls) :
    Calls Try.prog 27 #[v, .int .i64 r] w fun e w' => e = .returned (.tuple #[.bool (kfB ls r && hasB ls r), .bool (kfB ls r)]) ∧ Below w.heap.size w w' := by
  obtain ⟨a1, c1, rfl⟩ := h1.len
  have H1 := Lib.hid h1
  clear h1
  cases hl : lgB ls with
  | false =>
    have hf : Hid (kfB ls r = false) := Lib.hid (by simp [kfB, hl])
    go_enter Try.func27, Try.ntmps27
    go_wp2_with (go_at_call 67; refine (cmGood_any _ ls _ H1.out).mono ?_; rintro e w' ⟨rfl, rfl⟩)
    go_ret2
    exact ⟨by rw [hf.out]; rfl, Below.refl _ _⟩
  | true =>
    cases hb : baB r with
    | false =>
      have hf : Hid (kfB ls r = false) := Lib.hid (by simp [kfB, hb])
      go_enter Try.func27, Try.ntmps27
      go_wp2_with (first
        | (go_at_call 67; refine (cmGood_any _ ls _ H1.out).mono ?_; rintro e w' ⟨rfl, rfl⟩)
        | (go_at_call 70; refine (cmBase_any _ _).mono ?_; rintro e w' ⟨rfl, rfl⟩))
      go_ret2
      exact ⟨by rw [hf.out]; rfl, Below.refl _ _⟩
    | true =>
      have hf : Hid (kfB ls r = true) := Lib.hid (by simp [kfB, hb, hl])
      go_enter Try.func27, Try.ntmps27
      go_wp2_with (first
        | (go_at_call 67; refine (cmGood_any _ ls _ H1.out).mono ?_; rintro e w' ⟨rfl, rfl⟩)
        | (go_at_call 70; refine (cmBase_any _ _).mono ?_; rintro e w' ⟨rfl, rfl⟩)
        | (go_at_call 72; refine (cmHas_any _ ls _ _ H1.out hf.out).mono ?_; rintro e w' ⟨rfl, rfl⟩))
      go_ret2
      exact ⟨by rw [hf.out]; rfl, Below.refl _ _⟩
theorem specFlat_any (n r : Int) (w : World) :
    Calls Try.prog 24 #[.int .i64 n, .int .i64 r] w fun e w' => e = .returned (.tuple #[.int .i64 (okI (fcB n r) (flatL n r)), .bool (fcB n r)]) ∧ Below w.heap.size w w' := by
  cases h : fcB n r with
  | true => exact (specFlat_yes n r w h).mono fun e w' ⟨h1, h2⟩ => ⟨by rw [h1, okI_yes rfl], by rw [h2]; exact Below.refl _ _⟩
  | false => exact (specFlat_no n r w h).mono fun e w' ⟨h1, h2⟩ => ⟨by rw [h1, okI_no rfl], by rw [h2]; exact Below.refl _ _⟩
theorem implFlat_any (n r : Int) (w : World) :
    Calls Try.prog 23 #[.int .i64 n, .int .i64 r] w fun e w' => e = .returned (.tuple #[.int .i64 (okI (fcB n r) (flatL n r)), .bool (fcB n r)]) ∧ Below w.heap.size w w' := by
  cases h : fcB n r with
  | true => exact (implFlat_yes n r w h).mono fun e w' ⟨h1, h2⟩ => ⟨by rw [h1, okI_yes rfl], by rw [h2]; exact Below.refl _ _⟩
  | false => exact (implFlat_no n r w h).mono fun e w' ⟨h1, h2⟩ => ⟨by rw [h1, okI_no rfl], by rw [h2]; exact Below.refl _ _⟩
end Go.Proofs.Ytgceaffcalkbgaa
