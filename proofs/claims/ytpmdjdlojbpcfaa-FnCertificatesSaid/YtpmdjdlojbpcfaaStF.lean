/- Chapter 8: the most spots that are apart, of both sides. -/
import Derived.Test.YtpmdjdlojbpcfaaStE
namespace Go.Proofs.Ytpmdjdlojbpcfaa
open Go.RowKit
set_option linter.unusedSimpArgs false
set_option linter.unusedVariables false

def allS (n : Nat) : List (List Int) := (List.range (2 ^ n)).map fun s => nums s n
theorem mem_allS {n : Nat} {c : List Int} : c ∈ allS n ↔ Ris c 0 n := by
  simp only [allS, List.mem_map, List.mem_range]
  exact ⟨fun ⟨s, _, h⟩ => by rw [← h]; exact nums_ris s n, fun h => ⟨setN c, setN_lt h, nums_setN h⟩⟩
def mostB (L : List (List Int)) (n : Nat) (c : List Int) : Bool := apB L c && (allS n).all fun e => !apB L e || (decide (e.length ≤ c.length) && (!(e.length == c.length) || !lexB e c))
theorem mostB_iff {L : List (List Int)} {n : Nat} {c : List Int} (hc : Ris c 0 n) : mostB L n c = true ↔ IsMost L n c := by
  simp only [mostB, Bool.and_eq_true, List.all_eq_true, mem_allS, Bool.or_eq_true, Bool.not_eq_true', decide_eq_true_eq, beq_eq_false_iff_ne]
  constructor
  · rintro ⟨h1, h2⟩
    refine ⟨hc, h1, fun e he hap => ?_⟩
    rcases h2 e he with h | ⟨h, h'⟩
    · rw [hap] at h; cases h
    · exact ⟨h, fun hq => by rcases h' with h' | h'
                             · exact absurd hq h'
                             · exact h'⟩
  · rintro ⟨-, h1, h2⟩
    refine ⟨h1, fun e he => ?_⟩
    cases hap : apB L e with
    | false => exact .inl rfl
    | true =>
      obtain ⟨a, b⟩ := h2 e he hap
      by_cases hq : e.length = c.length
      · exact .inr ⟨a, .inr (b hq)⟩
      · exact .inr ⟨a, .inl hq⟩
def maR (L : List (List Int)) (n : Nat) : Option (List Int) := (allS n).find? (mostB L n)
theorem maR_eq {L : List (List Int)} {n : Nat} {r : List Int} (h : IsMost L n r) : maR L n = some r := by
  unfold maR
  cases hf : (allS n).find? (mostB L n) with
  | none =>
    have := List.find?_eq_none.1 hf r (mem_allS.2 h.1)
    exact absurd ((mostB_iff h.1).2 h) this
  | some c =>
    have h1 := List.find?_some hf
    have h2 := mem_allS.1 (List.mem_of_find?_eq_some hf)
    rw [((mostB_iff h2).1 h1).unique h]
def maL (L : List (List Int)) (n : Int) : List Int := if stB L n then (maR L n.toNat).getD [] else []
theorem maL_no {L : List (List Int)} {n : Int} (h : stB L n = false) : maL L n = [] := by simp [maL, h]
theorem maL_yes {L : List (List Int)} {n : Int} {r : List Int} (h : stB L n = true) (hr : IsMost L n.toNat r) : maL L n = r := by simp [maL, h, maR_eq hr]
theorem maR_len (L : List (List Int)) (n : Nat) : ((maR L n).getD []).length ≤ n := by
  unfold maR
  cases hf : (allS n).find? (mostB L n) with
  | none => simp
  | some c =>
    have h2 := (mem_allS.1 (List.mem_of_find?_eq_some hf)).len (by omega)
    simp; omega
theorem maL_len (L : List (List Int)) (n : Int) : (maL L n).length ≤ 16 := by
  unfold maL
  cases h : stB L n with
  | false => simp
  | true =>
    have h1 := maR_len L n.toNat
    have h2 := (stB_iff.1 h).1.n2
    simp only [if_true]
    omega
def MaPost (L : List (List Int)) (n : Int) (w : World) (e : Ending) (w' : World) : Prop :=
  ∃ v, e = .returned (.tuple #[v, .bool (stB L n)]) ∧ Own w' w.heap.size v (maL L n) ∧ Below w.heap.size w w'
theorem MaPost.no {L : List (List Int)} {n : Int} {w w' : World} (h : stB L n = false) (hb : Below w.heap.size w w') : MaPost L n w (.returned (.tuple #[.slice none 0 0, .bool false])) w' :=
  ⟨_, by rw [h], by rw [maL_no h]; exact Own.nil _ _, hb⟩
theorem MaPost.yes {L : List (List Int)} {n : Int} {w w' : World} {l : List Int} {v : Value} (h : stB L n = true) (hm : IsMost L n.toNat l) (ho : Own w' w.heap.size v l) (hb : Below w.heap.size w w') : MaPost L n w (.returned (.tuple #[v, .bool true])) w' :=
  ⟨_, by rw [h], by rw [maL_yes h hm]; exact ho, hb⟩

theorem one_apart (L : List (List Int)) {n : Nat} (h : 1 ≤ n) : ¬ FN (apB L) 1 n none := by
  intro hf
  have := hf [0] ⟨by simp, fun x hx => by simp at hx; subst hx; omega⟩ rfl
  rw [ap_single] at this; cases this
set_option maxRecDepth 100000 in
set_option maxHeartbeats 2000000 in
theorem implMostApart_any (v : Value) (L : List (List Int)) (n : Int) (w : World) (hr : RdJ w v L) :
    Calls Try.prog 35 #[v, .int .i64 n] w (MaPost L n w) := by
  have C0 := Lib.hid (implAreSites_any v L n w hr)
  have HR := Lib.hid hr
  clear hr
  cases hs : stB L n with
  | false =>
    have hf := Lib.hid hs
    rw [hs] at C0
    clear hs
    go_enter Try.func35, Try.ntmps35
    go_wp2_with fail
    refine C0.out.mono ?_
    rintro e w1 ⟨rfl, hb1⟩
    go_wp2
    go_ret2
    exact MaPost.no hf.out hb1
  | true =>
    rw [hs] at C0
    have HS := Lib.hid hs
    obtain ⟨ok, hne⟩ := stB_iff.1 hs
    obtain ⟨N, hN⟩ : ∃ N, n.toNat = N := ⟨_, rfl⟩
    rw [hN] at ok hne
    subst hne
    have OK := Lib.hid ok
    have hn1 := ok.n1
    have hn2 := ok.n2
    clear hs hN ok
    have eg : ∀ args w, (callFunc 81 args).run Try.prog w = .ok (.enter 81 args) w := enters_of Try.func81 (by kernel_rfl) rfl
    have EG := Lib.hid eg
    clear eg
    go_enter Try.func35, Try.ntmps35
    go_wp2_with fail
    refine C0.out.mono ?_
    rintro e w1 ⟨rfl, hb1⟩
    go_wp2_with fail
    refine (outlookOf_any _ L N _ OK.out (HR.out.later hb1)).mono ?_
    rintro e w2 ⟨uv, rfl, hv, hb2⟩
    have hB2 := hb1.trans (hb2.mono hb1.size)
    obtain ⟨au, cu, rfl⟩ := hv.len
    have hbx := Var2.new w2 (.int .u64 ((2 ^ N - 1 : Nat) : Int)) (.slice au L.length cu) 65
    have hal := (Below.refl w2.heap.size w2).alloc (Nat.le_refl _) (.cells #[.int .u64 ((2 ^ N - 1 : Nat) : Int), .slice au L.length cu] 65)
    have hrv := hv.later hal
    have hB3 := hB2.trans (hal.mono hB2.size)
    clear hv hal hb2 hB2 hb1
    generalize 2 ^ N - 1 = P1 at *
    obtain ⟨m, hme⟩ : ∃ m, m = L.length := ⟨_, rfl⟩
    rw [← hme] at hbx hrv hB3 ⊢
    clear hme
    have hFN : Hid (∀ (W : World) (size : Nat), Below (w2.alloc (.cells #[.int .u64 P1, .slice au m cu] 65)).heap.size (w2.alloc (.cells #[.int .u64 P1, .slice au m cu] 65)) W → size ≤ 16 →
        Calls Try.prog 56 #[.int .i64 size, .int .i64 N, .func (.func 81) #[.agg #[.int .u64 P1, .slice au m cu]] #[]] W (FnPost (apB L) size N W)) := Lib.hid fun W size hW hsz => by
      refine firstNumbers_any 81 #[.agg #[.int .u64 P1, .slice au m cu]] #[] (apB L) size N W EG.out hsz hn2 ?_
      intro y l hy hl hll
      have hyb := hW.trans (hy.mono hW.size)
      have := isApart_any _ L N (setN l) P1 y OK.out (setN_lt16 (ris16n OK.out hl)) (hrv.later hyb)
      rw [nums_setN (hl.wide (Int.le_refl _) (by omega) : Ris l 0 (16 : Nat))] at this
      exact this
    clear hrv
    go_wp2
    generalize w2.alloc (.cells #[.int .u64 P1, .slice au m cu] 65) = w3 at *
    go_loopw [7] (fun i wr => ∃ q : Nat, 1 ≤ q ∧ q ≤ N ∧ i = .int .i64 q ∧ Hid (∀ k, q < k → k ≤ N → FN (apB L) k N none) ∧ Below w3.heap.size w3 wr) (fun i _ => (intOf i).toNat)
    case atStart => exact ⟨N, hn1, Nat.le_refl _, rfl, Lib.hid fun k hk hk' => by omega, Below.refl _ _⟩
    case round =>
      obtain ⟨q, hq1, hq, rfl, hall, hb⟩ := hrel
      have C4 := Lib.hid (hFN.out wr q hb (by omega))
      have hbr := hbx.next hb
      have c0 := hbr.c0
      have c1 := hbr.c1
      go_wp2_with fail
      refine C4.out.mono ?_
      rintro e w4 ⟨r, v4, rfl, hF, ho, hb4⟩
      have hB4 := hb.trans (hb4.mono hb.size)
      have hBB := hB3.trans (hB4.mono hB3.size)
      cases r with
      | none =>
        have hq2 : 2 ≤ q := by
          refine Nat.lt_of_not_le fun h => ?_
          obtain rfl : q = 1 := by omega
          exact one_apart L hn1 hF
        have hall' : Hid (∀ k, q - 1 < k → k ≤ N → FN (apB L) k N none) := Lib.hid fun k hk hk' => by
          by_cases e : k = q
          · subst e; exact hF
          · exact hall.out k (by omega) hk'
        have hqi : (q : Int) - 1 = ((q - 1 : Nat) : Int) := by omega
        clear hF ho c0 c1
        go_wp2
        go_roundw
        case rel => exact ⟨q - 1, by omega, by omega, rfl, hall', hB4⟩
        case measure => simp [intOf]; omega
      | some l =>
        have hL := Lib.hid (isMost_of_found hF hall.out)
        have HO := Lib.hid (show Own w4 w.heap.size v4 l from ho.base (by have := hB3.size; have := hb.size; omega))
        clear hF ho c0 c1
        go_wp2
        go_ret2
        exact MaPost.yes HS.out (by simpa using hL.out) HO.out hBB
end Go.Proofs.Ytpmdjdlojbpcfaa
