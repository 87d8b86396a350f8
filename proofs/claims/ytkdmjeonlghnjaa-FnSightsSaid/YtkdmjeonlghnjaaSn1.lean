/- Equality of lists and of sights, as FnSights asks it. -/
import Derived.Test.YtkdmjeonlghnjaaSiD
import Derived.Test.YtkdmjeonlghnjaaHt0
namespace Go.Proofs.Ytkdmjeonlghnjaa
open Go.RowKit
set_option linter.unusedSimpArgs false
set_option linter.unusedVariables false

theorem qInts_true (v1 v2 : Value) (zs : List Int) (w : World) (h1 : Rd w v1 zs) (h2 : Rd w v2 zs) :
    Calls Try.prog 30 #[v1, v2] w fun e w' => e = .returned (.bool true) ∧ ∃ n, w' = w.drewN n := by
  rcases h1 with ⟨rfl, a1, c1, rfl, -⟩ | ⟨g1, o1, c1, rfl, hg1, hm, k1⟩
  · rcases h2 with ⟨-, a2, c2, rfl, -⟩ | ⟨g2, o2, c2, rfl, hg2, -, k2⟩
    all_goals
      go_enter Try.func30, Try.ntmps30
      go_wp2
      go_loopw [13] (fun i wr => i = .int .i64 0 ∧ wr = w) (fun i wr => 0)
      case atStart => exact ⟨rfl, rfl⟩
      case round =>
        obtain ⟨rfl, rfl⟩ := hrel
        go_wp2
        go_ret
        exact ⟨rfl, 0, rfl⟩
  · rcases h2 with ⟨rfl, a2, c2, rfl, -⟩ | ⟨g2, o2, c2, rfl, hg2, -, k2⟩
    · go_enter Try.func30, Try.ntmps30
      go_wp2
      go_loopw [13] (fun i wr => i = .int .i64 0 ∧ wr = w) (fun i wr => 0)
      case atStart => exact ⟨rfl, rfl⟩
      case round =>
        obtain ⟨rfl, rfl⟩ := hrel
        go_wp2
        go_ret
        exact ⟨rfl, 0, rfl⟩
    · unfold maxLen at hm
      obtain ⟨n, hn⟩ : ∃ n, n = zs.length := ⟨_, rfl⟩
      rw [← hn] at k1 k2 hm
      rw [← hn]
      clear hn
      go_enter Try.func30, Try.ntmps30
      go_wp2
      go_loopw [13] (fun i wr => ∃ k : Nat, k ≤ n ∧ i = .int .i64 k ∧ ∃ m, wr = w.drewN m) (fun i wr => n - (intOf i).toNat)
      case atStart => exact ⟨0, Nat.zero_le _, rfl, 0, rfl⟩
      case round =>
        obtain ⟨k, hk, rfl, m, rfl⟩ := hrel
        by_cases hlt : k < n
        · have q1 := k1 k hlt
          have q2 := k2 k hlt
          clear k1 k2
          go_wp2
          go_quiet (fail)
          go_wp2
          go_roundw
          case rel => exact ⟨k + 1, by omega, by go_num, _, rfl⟩
          case measure => simp [intOf]; omega
        · clear k1 k2
          go_wp2
          go_ret
          exact ⟨rfl, m, rfl⟩

theorem qSight_true (D A B : Int) (c d : Value) (ts : List T2) (w : World) (h1 : RdR c2 2 w c ts) (h2 : RdR c2 2 w d ts) :
    Calls Try.prog 31 #[.agg #[.int .i64 D, .int .i64 A, .int .i64 B, c], .agg #[.int .i64 D, .int .i64 A, .int .i64 B, d]] w fun e w' => e = .returned (.bool true) ∧ Below w.heap.size w w' := by
  have hm := h1.max
  unfold maxLen at hm
  obtain ⟨a1, c1, rfl, -⟩ := h1.len
  obtain ⟨a2, c2', rfl, -⟩ := h2.len
  have al1 := (Below.refl w.heap.size w).alloc (Nat.le_refl _) (.cells #[.int .i64 D, .int .i64 A, .int .i64 B, .slice a1 ts.length c1] 25)
  have V1 := Var4.new w (.int .i64 D) (.int .i64 A) (.int .i64 B) (.slice a1 ts.length c1) 25
  have al2 := (Below.refl (w.alloc (.cells #[.int .i64 D, .int .i64 A, .int .i64 B, .slice a1 ts.length c1] 25)).heap.size (w.alloc (.cells #[.int .i64 D, .int .i64 A, .int .i64 B, .slice a1 ts.length c1] 25))).alloc (Nat.le_refl _) (.cells #[.int .i64 D, .int .i64 A, .int .i64 B, .slice a2 ts.length c2'] 25)
  have V2 := Var4.new (w.alloc (.cells #[.int .i64 D, .int .i64 A, .int .i64 B, .slice a1 ts.length c1] 25)) (.int .i64 D) (.int .i64 A) (.int .i64 B) (.slice a2 ts.length c2') 25
  replace V1 := V1.next al2
  have hB := al1.trans (al2.mono al1.size)
  replace h1 := h1.later hB
  replace h2 := h2.later hB
  clear al1 al2
  have hs : (w.alloc (.cells #[.int .i64 D, .int .i64 A, .int .i64 B, .slice a1 ts.length c1] 25)).heap.size = w.heap.size + 1 := by simp
  rw [hs] at V2
  clear hs
  obtain ⟨n, hn⟩ : ∃ n, n = ts.length := ⟨_, rfl⟩
  rw [← hn] at h1 h2 hB V1 V2 hm
  rw [← hn]
  have HN := Lib.hid hn
  clear hn
  go_enter Try.func31, Try.ntmps31
  go_upto_region 1 with fail
  generalize (w.alloc (.cells #[.int .i64 D, .int .i64 A, .int .i64 B, .slice a1 n c1] 25)).alloc (.cells #[.int .i64 D, .int .i64 A, .int .i64 B, .slice a2 n c2'] 25) = w2 at *
  generalize hb : w.heap.size = b at *
  have HB := Lib.hid hb
  clear hb
  have s0 := V1.c0
  have s1 := V1.c1
  have s2 := V1.c2
  have s3 := V1.c3
  have u0 := V2.c0
  have u1 := V2.c1
  have u2 := V2.c2
  have u3 := V2.c3
  have sf0 := V1.fz 0
  have sf1 := V1.fz 1
  have sf2 := V1.fz 2
  have sf3 := V1.fz 3
  have uf0 := V2.fz 0
  have uf1 := V2.fz 1
  have uf2 := V2.fz 2
  have uf3 := V2.fz 3
  go_wp2
  go_loopw [37] (fun i wr => ∃ k : Nat, k ≤ n ∧ i = .int .i64 k ∧ ∃ m, wr = w2.drewN m) (fun i wr => n - (intOf i).toNat)
  case atStart => exact ⟨0, Nat.zero_le _, rfl, 0, rfl⟩
  case round =>
    obtain ⟨k, hk, rfl, m, rfl⟩ := hrel
    by_cases hlt : k < n
    · obtain ⟨g1, o1, rfl, hg1, p0, p1⟩ := h1.at2 HN.out k hlt
      obtain ⟨g2, o2, rfl, hg2, r0, r1⟩ := h2.at2 HN.out k hlt
      clear h1 h2 HN
      go_wp2
      go_quiet (fail)
      go_wp2
      go_roundw
      case rel => exact ⟨k + 1, by omega, by go_num, _, rfl⟩
      case measure => simp [intOf]; omega
    · clear h1 h2 HN
      go_wp2
      go_ret
      exact ⟨rfl, by rw [HB.out]; exact below_drewN hB m⟩
end Go.Proofs.Ytkdmjeonlghnjaa
