/- Chapter 8: AreSites of the program; what is seen from the sites, as sets. -/
import Derived.Test.YtpmdjdlojbpcfaaSt3
import Derived.Test.YtpmdjdlojbpcfaaFl0
import Derived.Deep.LoopGhost
import Derived.Shelf.Abstract
namespace Go.Proofs.Ytpmdjdlojbpcfaa
open Go.RowKit
set_option linter.unusedSimpArgs false
set_option linter.unusedVariables false

theorem any_yes {p : Nat → Bool} {m k : Nat} (hk : k < m) (h : p k = true) : (List.range m).any p = true := by
  rw [List.any_eq_true]; exact ⟨k, by simpa using hk, h⟩
theorem any_no {p : Nat → Bool} {m : Nat} (h : ∀ k, k < m → p k = false) : (List.range m).any p = false := by
  rw [List.any_eq_false]; intro x hx; rw [h x (by simpa using hx)]; simp
theorem idxLists_any (g : Nat) (cb : Array Value) (p : Nat → Bool) (v : Value) (L : List (List Int)) (w : World) (eg : ∀ args w, (callFunc g args).run Try.prog w = .ok (.enter g args) w) (hr : RdJ w v L)
    (hf : ∀ (i : Nat) (u : Value), i < L.length → RdC w u (rowAt L i) → Calls Try.prog g (#[u] ++ cb) w fun e w' => e = .returned (.bool (p i)) ∧ w = w') :
    Calls Try.prog 93 #[v, .func (.func g) #[] cb] w fun e w' => w = w' ∧ ∃ r : Int, e = .returned (.int .i64 r) ∧ decide (0 ≤ r) = (List.range L.length).any p := by
  have hm := hr.max
  obtain ⟨a, cap, rfl, -⟩ := hr.len
  obtain ⟨n, hn⟩ : ∃ n, n = L.length := ⟨_, rfl⟩
  have HN := Lib.hid hn
  have HR := Lib.hid hr
  have HF := Lib.hid hf
  rw [← hn] at hm ⊢
  clear hn hr hf
  go_enter Try.func93, Try.ntmps93
  go_wp2
  go_loop [8] (fun i => ∃ k : Nat, k ≤ n ∧ i = .int .i64 k ∧ Hid (∀ j, j < k → p j = false)) (fun i => n - (intOf i).toNat)
  case atStart => exact ⟨0, Nat.zero_le _, rfl, Lib.hid fun j hj => by omega⟩
  case round =>
    obtain ⟨k, hk, rfl, hall⟩ := hrel
    by_cases hlt : k < n
    · obtain ⟨g0, off, u, rfl, hg, hc0, hru⟩ := HR.out.at_ rfl k (by rw [← HN.out]; exact hlt)
      have hc := HF.out k u (by rw [← HN.out]; exact hlt) hru
      cases hp : p k with
      | true =>
        rw [hp] at hc
        have HP := Lib.hid (any_yes hlt hp)
        clear hp
        go_wp2_with (go_at_fn g; refine hc.mono ?_; rintro e w' ⟨rfl, rfl⟩)
        go_ret
        exact ⟨rfl, _, rfl, by rw [HP.out]; simp⟩
      | false =>
        rw [hp] at hc
        have hall' : Hid (∀ j, j < k + 1 → p j = false) := Lib.hid fun j hj => by
          by_cases e : j = k
          · subst e; exact hp
          · exact hall.out j (by omega)
        clear hp
        go_wp2_with (go_at_fn g; refine hc.mono ?_; rintro e w' ⟨rfl, rfl⟩)
        go_round
        case rel => exact ⟨k + 1, by omega, by go_num, hall'⟩
        case measure => simp [intOf]; omega
    · have HP : Hid ((List.range n).any p = false) := Lib.hid (any_no fun j hj => hall.out j (by omega))
      go_wp2
      go_ret
      exact ⟨rfl, _, rfl, by rw [HP.out]; rfl⟩
theorem containsLists_any (g : Nat) (cb : Array Value) (p : Nat → Bool) (v : Value) (L : List (List Int)) (w : World) (eg : ∀ args w, (callFunc g args).run Try.prog w = .ok (.enter g args) w) (hr : RdJ w v L)
    (hf : ∀ (i : Nat) (u : Value), i < L.length → RdC w u (rowAt L i) → Calls Try.prog g (#[u] ++ cb) w fun e w' => e = .returned (.bool (p i)) ∧ w = w') :
    Calls Try.prog 79 #[v, .func (.func g) #[] cb] w fun e w' => e = .returned (.bool ((List.range L.length).any p)) ∧ w = w' := by
  have C := Lib.hid (idxLists_any g cb p v L w eg hr hf)
  clear hr hf
  generalize (List.range L.length).any p = b at C ⊢
  go_enter Try.func79, Try.ntmps79
  go_wp2_with fail
  refine C.out.mono ?_
  rintro e w1 ⟨rfl, r, rfl, hr⟩
  have HR := Lib.hid hr
  clear hr
  go_wp2
  go_ret
  exact ⟨ret_bool HR.out, rfl⟩

theorem rows_any (L : List (List Int)) (hi : Int) (m : Nat) : (!(List.range m).any fun i => !risB (rowAt L i) 0 hi) = rowsTo L hi m := by
  unfold rowsTo
  induction m with
  | zero => rfl
  | succ m ih => rw [List.range_succ, List.any_append, List.all_append, Bool.not_or, ih]; simp
theorem clAreSites_any (u : Value) (zs : List Int) (n : Int) (b : Nat) (w : World) (hr : Rd w u zs) (hb : w.cell? ⟨b, 0, none⟩ = some (.int .i64 n)) :
    Calls Try.prog 80 #[u, .pointer (some ⟨b, 0, none⟩)] w fun e w' => e = .returned (.bool (!risB zs 0 (n - 1))) ∧ w = w' := by
  have C := Lib.hid (below_any u zs n w hr)
  clear hr
  go_enter Try.func80, Try.ntmps80
  go_wp2_with (go_at_call 72; refine C.out.mono ?_; rintro e w' ⟨rfl, rfl⟩)
  go_ret
  exact ⟨rfl, rfl⟩
theorem implAreSites_any (v : Value) (L : List (List Int)) (n : Int) (w : World) (hr : RdJ w v L) :
    Calls Try.prog 32 #[v, .int .i64 n] w fun e w' => e = .returned (.bool (stB L n)) ∧ Below w.heap.size w w' := by
  have hm := hr.max
  have hb := (Below.refl w.heap.size w).alloc (Nat.le_refl _) (.cells #[.int .i64 n] 3)
  have hr' := hr.later hb
  obtain ⟨a, cap, rfl, -⟩ := hr.len
  by_cases h1 : 1 ≤ n
  · by_cases h2 : n ≤ 16
    · by_cases h3 : 1 ≤ (L.length : Int)
      · by_cases h4 : (L.length : Int) ≤ 12
        · have eg : ∀ args w, (callFunc 80 args).run Try.prog w = .ok (.enter 80 args) w := enters_of Try.func80 (by kernel_rfl) rfl
          have C := Lib.hid (containsLists_any 80 #[.pointer (some ⟨w.heap.size, 0, none⟩)] (fun i => !risB (rowAt L i) 0 (n - 1)) (.slice a L.length cap) L (w.alloc (.cells #[.int .i64 n] 3)) eg hr'
            (fun i u hi hu => clAreSites_any u _ n w.heap.size _ hu.rd (new_cell _ _ _)))
          have hf : Hid ((!(List.range L.length).any fun i => !risB (rowAt L i) 0 (n - 1)) = stB L n) := Lib.hid (by
            rw [rows_any, stB, inB_yes h1 h2, inB_yes h3 h4]; rfl)
          generalize ((List.range L.length).any fun i => !risB (rowAt L i) 0 (n - 1)) = b at C hf
          clear hr hr'
          go_enter Try.func32, Try.ntmps32
          go_wp2_with fail
          refine C.out.mono ?_
          rintro e w1 ⟨rfl, rfl⟩
          go_wp2
          go_ret
          exact ⟨ret_bool hf.out, hb⟩
        · have hf : Hid (stB L n = false) := Lib.hid (by rw [stB, inB_no (n := (L.length : Int)) (by omega), Bool.and_false]; rfl)
          clear hr hr'
          go_enter Try.func32, Try.ntmps32
          go_wp2
          go_ret
          exact ⟨ret_bool hf.out.symm, hb⟩
      · have hf : Hid (stB L n = false) := Lib.hid (by rw [stB, inB_no (n := (L.length : Int)) (by omega), Bool.and_false]; rfl)
        clear hr hr'
        go_enter Try.func32, Try.ntmps32
        go_wp2
        go_ret
        exact ⟨ret_bool hf.out.symm, hb⟩
    · have hf : Hid (stB L n = false) := Lib.hid (by rw [stB, inB_no (n := n) (by omega)]; rfl)
      clear hr hr'
      go_enter Try.func32, Try.ntmps32
      go_wp2
      go_ret
      exact ⟨ret_bool hf.out.symm, hb⟩
  · have hf : Hid (stB L n = false) := Lib.hid (by rw [stB, inB_no (n := n) (by omega)]; rfl)
    clear hr hr'
    go_enter Try.func32, Try.ntmps32
    go_wp2
    go_ret
    exact ⟨ret_bool hf.out.symm, hb⟩
end Go.Proofs.Ytpmdjdlojbpcfaa
