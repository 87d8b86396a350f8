/- The laws' own helpers on phrases and books: the look at the size. -/
import Derived.Test.YtkmdionldaejjaaDoorBk1
import Derived.Test.YtkmdionldaejjaaDoorHelp
namespace Go.Proofs.YtkmdionldaejjaaDoor
open Go.RowKit
set_option linter.unusedSimpArgs false
set_option linter.unusedVariables false

/-- What a look at the size hands back: -1, or what is left; then P holds. -/
def SzPost (left : Int) (P : Prop) (w : World) (e : Ending) (w' : World) : Prop :=
  ∃ r : Int, e = .returned (.int .i64 r) ∧ Below w.heap.size w w' ∧ (r = -1 ∨ (0 ≤ r ∧ r ≤ left ∧ P))

theorem szIntS_any (v : Value) (zs : List Int) (left : Int) (w : World) (h0 : 0 ≤ left) (h1 : left ≤ 1048576) (hr : RdC w v zs) :
    Calls Tryd.prog 70 #[v, .int .i64 left] w (SzPost left (zs.length ≤ left) w) := by
  have hm : (zs.length : Int) ≤ 9223372036854775807 := by
    rcases hr.1 with ⟨rfl, -⟩ | ⟨g, off, cap, -, -, hm, -⟩
    · simp
    · unfold maxLen at hm; omega
  obtain ⟨-, a, cap, rfl, -⟩ := hr
  by_cases h : (zs.length : Int) ≤ left
  · go_enter Tryd.func70, Tryd.ntmps70
    go_wp2
    go_ret
    exact ⟨_, rfl, Below.refl _ _, .inr ⟨by omega, by omega, h⟩⟩
  · go_enter Tryd.func70, Tryd.ntmps70
    go_wp2
    go_ret
    exact ⟨_, rfl, Below.refl _ _, .inl rfl⟩

set_option maxHeartbeats 400000 in
theorem szPhrase_any (s : ByteArray) (u : Value) (zs : List Int) (left : Int) (w : World) (h0 : 0 ≤ left) (h1 : left ≤ 1048576) (hs : s.size ≤ maxLen) (hr : RdC w u zs) :
    Calls Tryd.prog 51 #[.agg #[.string s, u], .int .i64 left] w (SzPost left (s.size ≤ 1048576 ∧ zs.length ≤ 1048576) w) := by
  unfold maxLen at hs
  by_cases h : (s.size : Int) ≤ left
  · go_enter Tryd.func51, Tryd.ntmps51
    go_wp2_with fail
    refine (szIntS_any _ zs _ _ (by omega) (by omega) (hr.later ((Below.refl _ _).alloc (Nat.le_refl _) _))).mono ?_
    rintro e w1 ⟨r, rfl, hb, hr'⟩
    have hb1 := ((Below.refl w.heap.size w).alloc (Nat.le_refl _) (.cells #[.string s, u] 82)).trans (hb.mono (by simp))
    rcases hr' with hr' | ⟨r0, r1, r2⟩
    · go_wp2
      go_ret
      exact ⟨_, rfl, hb1, .inl rfl⟩
    · go_wp2
      go_ret
      exact ⟨_, rfl, hb1, .inr ⟨r0, by omega, by omega, by omega⟩⟩
  · go_enter Tryd.func51, Tryd.ntmps51
    go_wp2
    go_ret
    exact ⟨_, rfl, (Below.refl _ _).alloc (Nat.le_refl _) _, .inl rfl⟩

set_option maxHeartbeats 400000 in
theorem szPhraseS_any (v : Value) (ps : List Ph) (left : Int) (w : World) (h0 : 0 ≤ left) (h1 : left ≤ 1048576) (hr : RdPs w v ps) :
    Calls Tryd.prog 30 #[v, .int .i64 left] w (SzPost left (SmallPs ps) w) := by
  have hm : (ps.length : Int) ≤ 9223372036854775807 := by
    rcases hr with ⟨rfl, -⟩ | ⟨g, off, cap, -, -, hl, hm, -⟩
    · simp
    · unfold maxLen at hm; omega
  obtain ⟨a, cap, rfl, -⟩ := hr.len
  obtain ⟨n, hn⟩ : ∃ n, n = ps.length := ⟨_, rfl⟩
  have HN := Lib.hid hn
  have HR := Lib.hid hr
  rw [← hn] at hm ⊢
  clear hn hr
  by_cases h : (n : Int) ≤ left
  · go_enter Tryd.func30, Tryd.ntmps30
    go_wp2
    go_loopw [1, 5] (fun l i wr => ∃ (k : Nat) (z : Int), k ≤ n ∧ i = .int .i64 k ∧ l = .int .i64 z ∧ 0 ≤ z ∧ z ≤ left ∧ Below w.heap.size w wr ∧ Hid (∀ j, j < k → (phAt ps j).txt.size ≤ 1048576 ∧ (phAt ps j).sig.length ≤ 1048576)) (fun _ i _ => n - (intOf i).toNat)
    case atStart => exact ⟨0, _, Nat.zero_le _, rfl, rfl, by omega, by omega, Below.refl _ _, Lib.hid fun j hj => by omega⟩
    case round =>
      obtain ⟨k, z, hk, rfl, rfl, z0, z1, hb, hall⟩ := hrel
      by_cases hlt : k < n
      · obtain ⟨g, off, u, rfl, hg, hts, hc0, hc1, hru⟩ := (HR.out.below hb (Nat.le_refl _)).at_ (by rw [← HN.out]) k (by rw [← HN.out]; exact hlt)
        go_wp2_with fail
        refine (szPhrase_any _ _ _ _ _ z0 (by omega) hts hru).mono ?_
        rintro e w1 ⟨r, rfl, hb', hr'⟩
        have hb2 := hb.trans (hb'.mono hb.size)
        rcases hr' with rfl | ⟨r0, r1, r2, r3⟩
        · go_wp2
          go_ret
          exact ⟨_, rfl, hb2, .inl rfl⟩
        · have hall' : Hid (∀ j, j < k + 1 → (phAt ps j).txt.size ≤ 1048576 ∧ (phAt ps j).sig.length ≤ 1048576) := Lib.hid fun j hj => by
            by_cases e : j = k
            · subst e; exact ⟨r2, r3⟩
            · exact hall.out j (by omega)
          go_wp2
          go_roundw
          case rel => exact ⟨k + 1, r, by omega, by go_num, rfl, r0, by omega, hb2, hall'⟩
          case measure => simp [intOf]; omega
      · go_wp2
        go_ret
        exact ⟨_, rfl, hb, .inr ⟨z0, z1, by rw [← HN.out]; omega, fun i hi => hall.out i (by rw [← HN.out] at hi; omega)⟩⟩
  · go_enter Tryd.func30, Tryd.ntmps30
    go_wp2
    go_ret
    exact ⟨_, rfl, Below.refl _ _, .inl rfl⟩

theorem szBook_any (v : Value) (ps : List Ph) (left : Int) (w : World) (h0 : 0 ≤ left) (h1 : left ≤ 1048576) (hr : RdPs w v ps) :
    Calls Tryd.prog 15 #[.agg #[v], .int .i64 left] w (SzPost left (SmallPs ps) w) := by
  go_enter Tryd.func15, Tryd.ntmps15
  go_wp2_with fail
  refine (szPhraseS_any _ ps _ _ h0 h1 (hr.later ((Below.refl _ _).alloc (Nat.le_refl _) _))).mono ?_
  rintro e w1 ⟨r, rfl, hb, hr'⟩
  have hb1 := ((Below.refl w.heap.size w).alloc (Nat.le_refl _) (.cells #[v] 34)).trans (hb.mono (by simp))
  rcases hr' with rfl | ⟨r0, r1, r2⟩
  · go_wp2
    go_ret
    exact ⟨_, rfl, hb1, .inl rfl⟩
  · go_wp2
    go_ret
    exact ⟨_, rfl, hb1, .inr ⟨r0, r1, r2⟩⟩
end Go.Proofs.YtkmdionldaejjaaDoor
