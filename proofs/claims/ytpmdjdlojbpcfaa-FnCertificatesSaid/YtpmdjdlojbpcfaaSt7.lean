/- Chapter 8: covers and spots that are apart, of the program. -/
import Derived.Test.YtpmdjdlojbpcfaaSt6
import Derived.Lib.QuietBelow
namespace Go.Proofs.Ytpmdjdlojbpcfaa
open Go.RowKit Go.Sort
set_option linter.unusedSimpArgs false
set_option linter.unusedVariables false

def seP (L : List (List Int)) (n s : Nat) : Nat → Nat × Nat
  | 0 => (0, 0)
  | k + 1 => if s.testBit k then ((seP L n s k).1 ||| ((2 ^ n - 1) &&& vw L k), (seP L n s k).2 ||| ((seP L n s k).1 &&& vw L k)) else seP L n s k
def seA (L : List (List Int)) (n s : Nat) : Nat := (seP L n s L.length).1
def seB (L : List (List Int)) (n s : Nat) : Nat := (seP L n s L.length).2
theorem seP_ok {L : List (List Int)} {n s : Nat} (ok : StOk L n) (k : Nat) : SeenI L n s k (seP L n s k).1 (seP L n s k).2 := by
  induction k with
  | zero => exact SeenI.zero _ _ _
  | succ k ih =>
    unfold seP
    cases hb : s.testBit k with
    | true => rw [if_pos rfl]; exact ih.step ok hb
    | false => rw [if_neg (by decide)]; exact ih.skip hb
theorem se_ok {L : List (List Int)} {n s : Nat} (ok : StOk L n) : SeenI L n s L.length (seA L n s) (seB L n s) := seP_ok ok _
theorem SeenI.unique {L : List (List Int)} {n s k a b a' b' : Nat} (h : SeenI L n s k a b) (h' : SeenI L n s k a' b') : a = a' ∧ b = b' :=
  ⟨Nat.eq_of_testBit_eq fun j => by rw [(h j).1, (h' j).1], Nat.eq_of_testBit_eq fun j => by rw [(h j).2, (h' j).2]⟩
theorem seen_any (u : Value) (L : List (List Int)) (n s : Nat) (w : World) (ok : StOk L n) (hs : s < 65536) (hr : RdV w u L) :
    Calls Try.prog 68 #[.agg #[.int .u64 ((2 ^ n - 1 : Nat) : Int), u], .int .u64 s] w fun e w' => e = .returned (.agg #[.int .u64 ((2 ^ n - 1 : Nat) : Int), .int .u64 (seA L n s), .int .u64 (seB L n s)]) ∧ Below w.heap.size w w' :=
  (seenFrom_any u L n s w ok hs hr).mono fun e w' ⟨a, b, he, h, hb⟩ => by
    obtain ⟨rfl, rfl⟩ := h.unique (se_ok ok)
    exact ⟨he, hb⟩
theorem seen_g (u : Value) (L : List (List Int)) (n s : Nat) (w : World) (ok : StOk L n) (hs : s < 65536) (hr : RdV w u L) : ∀ d os, Calls Try.prog 68 #[.agg #[.int .u64 ((2 ^ n - 1 : Nat) : Int), u], .int .u64 s] (grow (redrawn w d) os) fun e w'' => e = .returned (.agg #[.int .u64 ((2 ^ n - 1 : Nat) : Int), .int .u64 (seA L n s), .int .u64 (seB L n s)]) ∧ ∃ p : Regrown, w'' = grow (redrawn w p.d) p.os :=
  fun d os => Calls.regrown_of (seen_any u L n s _ ok hs (hr.later (below_regrown w d os)))
theorem run_index_one (w : World) (k : IntKind) (x y z : Value) : (Instr.index 76 (.agg #[x, y, z]) (.int k 1)).run Try.prog w = .ok y w := by
  simp [Instr.index, run_underlying Try.underlying76, asIntOf, go_sem]
theorem run_index_two (w : World) (k : IntKind) (x y z : Value) : (Instr.index 76 (.agg #[x, y, z]) (.int k 2)).run Try.prog w = .ok z w := by
  simp [Instr.index, run_underlying Try.underlying76, asIntOf, go_sem]
attribute [local go_sem] run_index_one run_index_two
theorem eqN (a b : Nat) : ((a : Int) == (b : Int)) = decide (a = b) := by
  rw [Bool.eq_iff_iff]
  simp only [beq_iff_eq, decide_eq_true_eq]
  omega
set_option maxRecDepth 100000 in
set_option maxHeartbeats 1000000 in
theorem isCovered_any (u : Value) (L : List (List Int)) (n s t : Nat) (w : World) (ok : StOk L n) (hs : s < 65536) (ht : t = 1 ∨ t = 2) (hr : RdV w u L) :
    Calls Try.prog 58 #[.agg #[.int .u64 ((2 ^ n - 1 : Nat) : Int), u], .int .u64 s, .int .i64 t] w fun e w' => e = .returned (.bool (covB L n (nums s L.length) t)) ∧ Below w.heap.size w w' := by
  have hbw := (Below.refl w.heap.size w).alloc (Nat.le_refl _) (.cells #[.int .u64 ((2 ^ n - 1 : Nat) : Int), u] 65)
  have hv := Var2.new w (.int .u64 ((2 ^ n - 1 : Nat) : Int)) u 65
  have C := seen_g u L n s (w.alloc (.cells #[.int .u64 ((2 ^ n - 1 : Nat) : Int), u] 65)) ok hs (hr.later ((Below.refl _ _).alloc (Nat.le_refl _) _))
  have h1 := (se_ok (s := s) ok).cov1
  have h2 := (se_ok (s := s) ok).cov2
  rw [← eqN] at h1 h2
  obtain ⟨au, cu, rfl⟩ := hr.len
  clear hr
  obtain ⟨m, hme⟩ : ∃ m, m = L.length := ⟨_, rfl⟩
  rw [← hme] at hbw hv C h1 h2 ⊢
  clear hme
  generalize seA L n s = a at C h1
  generalize seB L n s = b at C h2
  generalize 2 ^ n - 1 = N at *
  have H1 := Lib.hid h1
  have H2 := Lib.hid h2
  clear h1 h2
  have K0 := cell_regrown hv.c0
  have K1 := cell_regrown hv.c1
  clear hv
  rcases ht with rfl | rfl
  all_goals
    first | rw [show ((1 : Nat) : Int) = 1 from rfl] | rw [show ((2 : Nat) : Int) = 2 from rfl]
    go_enter Try.func58, Try.ntmps58
    go_wp2_with fail
    refine wp_region_quiet_below (by kernel_rfl) (by kernel_rfl) ?_
    repeat (go_big_quiet_step (first | (with_reducible exact C _ _)))
    refine wpQuiet_nil ?_
    intro _ hw'
    obtain ⟨⟨dq, osq⟩, hw''⟩ := hw'
    subst hw''
    have hb3 := hbw.trans ((below_regrown (w.alloc (.cells #[.int .u64 N, .slice au m cu] 65)) dq osq).mono (by simp))
    go_wp2
    go_ret
    first | exact ⟨ret_bool H1.out, hb3⟩ | exact ⟨ret_bool H2.out, hb3⟩

/-! ### Apart -/
theorem idxSets_any (g : Nat) (cb : Array Value) (p : Nat → Bool) (v : Value) (L : List (List Int)) (w : World) (eg : ∀ args w, (callFunc g args).run Try.prog w = .ok (.enter g args) w) (hL : L.length ≤ 12) (hr : RdV w v L)
    (hf : ∀ i : Nat, i < L.length → Calls Try.prog g (#[.int .u64 (vw L i)] ++ cb) w fun e w' => e = .returned (.bool (p i)) ∧ w = w') :
    Calls Try.prog 102 #[v, .func (.func g) #[] cb] w fun e w' => w = w' ∧ ∃ r : Int, e = .returned (.int .i64 r) ∧ decide (0 ≤ r) = (List.range L.length).any p := by
  obtain ⟨a, cap, rfl⟩ := hr.len
  obtain ⟨n, hn⟩ : ∃ n, n = L.length := ⟨_, rfl⟩
  have HN := Lib.hid hn
  have HR := Lib.hid hr
  have HF := Lib.hid hf
  rw [← hn] at hL ⊢
  clear hn hr hf
  go_enter Try.func102, Try.ntmps102
  go_wp2
  go_loop [8] (fun i => ∃ k : Nat, k ≤ n ∧ i = .int .i64 k ∧ Hid (∀ j, j < k → p j = false)) (fun i => n - (intOf i).toNat)
  case atStart => exact ⟨0, Nat.zero_le _, rfl, Lib.hid fun j hj => by omega⟩
  case round =>
    obtain ⟨k, hk, rfl, hall⟩ := hrel
    by_cases hlt : k < n
    · obtain ⟨g0, off, rfl, hg, hc0⟩ := HR.out.at_ (by rw [← HN.out]) k (by rw [← HN.out]; exact hlt)
      have hc := HF.out k (by rw [← HN.out]; exact hlt)
      generalize vw L k = x at hc0 hc
      cases hp : p k with
      | true =>
        rw [hp] at hc
        have HP := Lib.hid (any_yes hlt hp)
        clear hp
        go_wp2_with (go_at_fn g; refine hc.mono ?_; rintro e w' ⟨rfl, rfl⟩)
        go_ret
        exact ⟨rfl, _, rfl, by rw [HP.out]; simp⟩
      | false =>
        rw [hp] at hc
        have hall' : Hid (∀ j, j < k + 1 → p j = false) := Lib.hid fun j hj => by
          by_cases e : j = k
          · subst e; exact hp
          · exact hall.out j (by omega)
        clear hp
        go_wp2_with (go_at_fn g; refine hc.mono ?_; rintro e w' ⟨rfl, rfl⟩)
        go_round
        case rel => exact ⟨k + 1, by omega, by go_num, hall'⟩
        case measure => simp [intOf]; omega
    · have HP : Hid ((List.range n).any p = false) := Lib.hid (any_no fun j hj => hall.out j (by omega))
      go_wp2
      go_ret
      exact ⟨rfl, _, rfl, by rw [HP.out]; rfl⟩
theorem containsSets_any (g : Nat) (cb : Array Value) (p : Nat → Bool) (v : Value) (L : List (List Int)) (w : World) (eg : ∀ args w, (callFunc g args).run Try.prog w = .ok (.enter g args) w) (hL : L.length ≤ 12) (hr : RdV w v L)
    (hf : ∀ i : Nat, i < L.length → Calls Try.prog g (#[.int .u64 (vw L i)] ++ cb) w fun e w' => e = .returned (.bool (p i)) ∧ w = w') :
    Calls Try.prog 94 #[v, .func (.func g) #[] cb] w fun e w' => e = .returned (.bool ((List.range L.length).any p)) ∧ w = w' := by
  have C := Lib.hid (idxSets_any g cb p v L w eg hL hr hf)
  obtain ⟨a, cap, rfl⟩ := hr.len
  clear hr hf
  generalize (List.range L.length).any p = b at C ⊢
  go_enter Try.func94, Try.ntmps94
  go_wp2_with fail
  refine C.out.mono ?_
  rintro e w1 ⟨rfl, r, rfl, hr⟩
  have HR := Lib.hid hr
  clear hr
  go_wp2
  go_ret
  exact ⟨ret_bool HR.out, rfl⟩
theorem clIsApart_any (v s b : Nat) (w : World) (hv : v < 65536) (hs : s < 65536) (hb : w.cell? ⟨b, 0, none⟩ = some (.int .u64 s)) :
    Calls Try.prog 95 #[.int .u64 v, .pointer (some ⟨b, 0, none⟩)] w fun e w' => e = .returned (.bool (!decide (popN (v &&& s) 16 ≤ 1))) ∧ w = w' := by
  have e1 := bits_and_u64_nat v s (by omega) (by omega)
  have hx : v &&& s ≤ v := Nat.and_le_left
  obtain ⟨x, hxe⟩ : ∃ x, x = v &&& s := ⟨_, rfl⟩
  rw [← hxe] at e1 hx ⊢
  have C := fun W => Lib.hid (size_any x W (by omega))
  generalize popN x 16 = y at C ⊢
  clear hxe
  have hf : Hid (decide ((1 : Int) < y) = !decide (y ≤ 1)) := Lib.hid (by
    rw [Bool.eq_iff_iff]
    simp only [decide_eq_true_eq, Bool.not_eq_true', decide_eq_false_iff_not]; omega)
  go_enter Try.func95, Try.ntmps95
  go_wp2_with (go_at_call 65; refine (C _).out.mono ?_; rintro e w' ⟨rfl, rfl⟩)
  go_ret
  exact ⟨ret_bool (by rw [← hf.out]), rfl⟩
theorem apart_eq {L : List (List Int)} {n s : Nat} (ok : StOk L n) (m : Nat) : (!(List.range m).any fun i => !decide (popN (vw L i &&& s) 16 ≤ 1)) = (List.range m).all fun i => decide ((nums s 16).countP (fun j => hsB L i j.toNat) ≤ 1) := by
  induction m with
  | zero => rfl
  | succ m ih =>
    rw [List.range_succ, List.any_append, List.all_append, Bool.not_or, ih]
    simp [pop_and ok]
theorem isApart_any (u : Value) (L : List (List Int)) (n s N : Nat) (w : World) (ok : StOk L n) (hs : s < 65536) (hr : RdV w u L) :
    Calls Try.prog 81 #[.agg #[.int .u64 N, u], .int .u64 s] w fun e w' => e = .returned (.bool (apB L (nums s 16))) ∧ Below w.heap.size w w' := by
  have hm2 := ok.m2
  have hb1 := (Below.refl w.heap.size w).alloc (Nat.le_refl _) (.cells #[.int .u64 N, u] 65)
  have hb2 := hb1.alloc (by simp) (.cells #[.int .u64 s] 62)
  have eg : ∀ args w, (callFunc 95 args).run Try.prog w = .ok (.enter 95 args) w := enters_of Try.func95 (by kernel_rfl) rfl
  have C := Lib.hid (containsSets_any 95 #[.pointer (some ⟨w.heap.size + 1, 0, none⟩)] (fun i => !decide (popN (vw L i &&& s) 16 ≤ 1)) u L ((w.alloc (.cells #[.int .u64 N, u] 65)).alloc (.cells #[.int .u64 s] 62)) eg hm2 (hr.later hb2)
    (fun i hi => clIsApart_any (vw L i) s (w.heap.size + 1) _ (Nat.lt_of_lt_of_le (ok.vw_lt i) (two16 ok.n2)) hs (by simp)))
  have hf : Hid ((!(List.range L.length).any fun i => !decide (popN (vw L i &&& s) 16 ≤ 1)) = apB L (nums s 16)) := Lib.hid (apart_eq ok L.length)
  generalize ((List.range L.length).any fun i => !decide (popN (vw L i &&& s) 16 ≤ 1)) = b at C hf
  obtain ⟨a, cap, rfl⟩ := hr.len
  clear hr eg
  go_enter Try.func81, Try.ntmps81
  go_wp2_with fail
  refine C.out.mono ?_
  rintro e w1 ⟨rfl, rfl⟩
  go_wp2
  go_ret
  exact ⟨ret_bool hf.out, hb2⟩
end Go.Proofs.Ytpmdjdlojbpcfaa
