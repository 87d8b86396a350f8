/- Chapter 8: least covers of both sides. -/
import Derived.Test.YtpmdjdlojbpcfaaStC
namespace Go.Proofs.Ytpmdjdlojbpcfaa
open Go.RowKit
set_option linter.unusedSimpArgs false
set_option linter.unusedVariables false

theorem stBefore_any (v u : Value) (a b : List Int) (w : World) (hl : a.length = b.length) (hr : Rd w v a) (hu : Rd w u b) :
    Calls Try.prog 63 #[v, u] w fun e w' => e = .returned (.bool (lexB a b)) ∧ w = w' := by
  have hm := hr.max
  unfold maxLen at hm
  obtain ⟨a1, c1, rfl⟩ := hr.len
  obtain ⟨a2, c2, rfl⟩ := hu.len
  rw [← hl] at hu ⊢
  obtain ⟨n, hn⟩ : ∃ n, n = a.length := ⟨_, rfl⟩
  have HN := Lib.hid hn
  have HL := Lib.hid hl
  have HR := Lib.hid hr
  have HU := Lib.hid hu
  rw [← hn] at hm HU ⊢
  clear hn hr hu hl
  go_enter Try.func63, Try.ntmps63
  go_wp2
  go_loop [9] (fun i => ∃ k : Nat, k ≤ n ∧ i = .int .i64 k ∧ Hid (∀ j, j < k → a[j]?.getD 0 = b[j]?.getD 0)) (fun i => n - (intOf i).toNat)
  case atStart => exact ⟨0, Nat.zero_le _, rfl, Lib.hid fun j hj => by omega⟩
  case round =>
    obtain ⟨k, hk, rfl, hall⟩ := hrel
    by_cases hlt : k < n
    · obtain ⟨g1, o1, rfl, hg1, q1⟩ := HR.out.at_ (by rw [← HN.out]) k (by rw [← HN.out]; exact hlt)
      obtain ⟨g2, o2, rfl, hg2, q2⟩ := HU.out.at_ (by rw [HN.out, HL.out]) k hlt
      by_cases he : a[k]?.getD 0 = b[k]?.getD 0
      · have hall' : Hid (∀ j, j < k + 1 → a[j]?.getD 0 = b[j]?.getD 0) := Lib.hid fun j hj => by
          by_cases e : j = k
          · subst e; exact he
          · exact hall.out j (by omega)
        rw [he] at q1
        generalize b[k]?.getD 0 = y at q1 q2
        clear he
        go_wp2
        go_round
        case rel => exact ⟨k + 1, by omega, by go_num, hall'⟩
        case measure => simp [intOf]; omega
      · have hf := Lib.hid (lexB_at k (by rw [← HN.out]; exact hlt) (by rw [← HL.out, ← HN.out]; exact hlt) hall.out he)
        have hne : (a[k]?.getD 0 != b[k]?.getD 0) = true := bne_iff_ne.2 he
        generalize a[k]?.getD 0 = x at *
        generalize b[k]?.getD 0 = y at *
        clear he
        go_wp2
        go_ret
        exact ⟨ret_bool hf.out.symm, rfl⟩
    · have hf : Hid (lexB a b = false) := Lib.hid (lexB_eq HL.out fun j hj => hall.out j (by rw [← HN.out] at hj; omega))
      go_wp2
      go_ret
      exact ⟨ret_bool hf.out.symm, rfl⟩

def lcP (L : List (List Int)) (n t : Nat) (c : List Int) : Bool := covB L n c t
def lcA (L : List (List Int)) (n t : Int) : Bool := stB L n && inB t 1 2
def lcR (L : List (List Int)) (n t : Int) : Option (List Int) := if lcA L n t then lcTo (lcP L n.toNat t.toNat) L.length (2 ^ L.length) else none
theorem lcR_no {L : List (List Int)} {n t : Int} (h : lcA L n t = false) : lcR L n t = none := by simp [lcR, h]
theorem lcR_yes {L : List (List Int)} {n t : Int} (h : lcA L n t = true) : lcR L n t = lcTo (lcP L n.toNat t.toNat) L.length (2 ^ L.length) := by simp [lcR, h]
def LcPost (L : List (List Int)) (n t : Int) (w : World) (e : Ending) (w' : World) : Prop :=
  ∃ v, e = .returned (.tuple #[v, .bool (lcR L n t).isSome]) ∧ Own w' w.heap.size v ((lcR L n t).getD []) ∧ Below w.heap.size w w'
theorem LcPost.no {L : List (List Int)} {n t : Int} {w w' : World} (h : lcR L n t = none) (hb : Below w.heap.size w w') : LcPost L n t w (.returned (.tuple #[.slice none 0 0, .bool false])) w' :=
  ⟨_, by rw [h]; rfl, by rw [h]; exact Own.nil _ _, hb⟩
theorem LcPost.yes {L : List (List Int)} {n t : Int} {w w' : World} {l : List Int} {v : Value} (h : lcR L n t = some l) (ho : Own w' w.heap.size v l) (hb : Below w.heap.size w w') : LcPost L n t w (.returned (.tuple #[v, .bool true])) w' :=
  ⟨_, by rw [h]; rfl, by rw [h]; exact ho, hb⟩
theorem lcTo_len (P : List Int → Bool) (m k : Nat) : ((lcTo P m k).getD []).length ≤ m := by
  have := lcTo_is P m k
  cases hr : lcTo P m k with
  | none => simp
  | some c =>
    rw [hr] at this
    obtain ⟨⟨s, -, rfl⟩, -⟩ := this
    exact nums_len s m
theorem lcR_len (L : List (List Int)) (n t : Int) : ((lcR L n t).getD []).length ≤ 12 := by
  cases h : lcA L n t with
  | false => rw [lcR_no h]; simp
  | true =>
    rw [lcR_yes h]
    have h1 := lcTo_len (lcP L n.toNat t.toNat) L.length (2 ^ L.length)
    have : stB L n = true := by simp [lcA] at h; exact h.1
    have := (stB_iff.1 this).1.m2
    omega

theorem clCover_any (u : Value) (L : List (List Int)) (n s t b b' : Nat) (w : World) (ok : StOk L n) (hs : s < 65536) (ht : t = 1 ∨ t = 2) (hr : RdV w u L) (hb : Var2 w b (.int .u64 ((2 ^ n - 1 : Nat) : Int)) u) (hb' : w.cell? ⟨b', 0, none⟩ = some (.int .i64 t)) :
    Calls Try.prog 57 #[.int .u64 s, .pointer (some ⟨b, 0, none⟩), .pointer (some ⟨b', 0, none⟩)] w fun e w' => e = .returned (.bool (covB L n (nums s L.length) t)) ∧ Below w.heap.size w w' := by
  have C := Lib.hid (isCovered_any u L n s t w ok hs ht hr)
  have c0 := hb.c0
  have c1 := hb.c1
  obtain ⟨a, cap, rfl⟩ := hr.len
  clear hr hb ok ht
  generalize 2 ^ n - 1 = N at *
  go_enter Try.func57, Try.ntmps57
  go_wp2_with fail
  refine C.out.mono ?_
  rintro e w1 ⟨rfl, hb1⟩
  go_wp2
  go_ret
  exact ⟨rfl, hb1⟩
set_option maxRecDepth 100000 in
set_option maxHeartbeats 2000000 in
theorem implLeastCover_any (v : Value) (L : List (List Int)) (n t : Int) (w : World) (hr : RdJ w v L) :
    Calls Try.prog 16 #[v, .int .i64 n, .int .i64 t] w (LcPost L n t w) := by
  have hbt := (Below.refl w.heap.size w).alloc (Nat.le_refl _) (.cells #[.int .i64 t] 3)
  have htc := new_cell w (.int .i64 t) 3
  have htl : w.heap.size < (w.alloc (.cells #[.int .i64 t] 3)).heap.size := by simp
  have hr' := hr.later hbt
  have C0 := Lib.hid (implAreSites_any v L n (w.alloc (.cells #[.int .i64 t] 3)) hr')
  have C2 := fun W => Lib.hid (isTimes_any t W)
  have HR := Lib.hid hr'
  obtain ⟨a, cap, rfl, -⟩ := hr.len
  clear hr hr'
  cases hs : stB L n with
  | false =>
    have hf := Lib.hid (lcR_no (L := L) (n := n) (t := t) (by simp [lcA, hs]))
    rw [hs] at C0
    clear hs
    go_enter Try.func16, Try.ntmps16
    go_wp2_with fail
    refine C0.out.mono ?_
    rintro e w1 ⟨rfl, hb1⟩
    have hB1 := hbt.trans (hb1.mono hbt.size)
    go_wp2
    go_ret2
    exact LcPost.no hf.out hB1
  | true =>
    rw [hs] at C0
    cases ht : inB t 1 2 with
    | false =>
      have hf := Lib.hid (lcR_no (L := L) (n := n) (t := t) (by simp [lcA, ht]))
      rw [ht] at C2
      clear hs ht
      go_enter Try.func16, Try.ntmps16
      go_wp2_with fail
      refine C0.out.mono ?_
      rintro e w1 ⟨rfl, hb1⟩
      have hB1 := hbt.trans (hb1.mono hbt.size)
      have htc := (hb1.cell (p := ⟨w.heap.size, 0, none⟩) htl).trans htc
      go_wp2_with fail
      refine (C2 _).out.mono ?_
      rintro e w' ⟨rfl, rfl⟩
      go_wp2
      go_ret2
      exact LcPost.no hf.out hB1
    | true =>
      have hf := Lib.hid (lcR_yes (L := L) (n := n) (t := t) (by simp [lcA, hs, ht]))
      rw [ht] at C2
      obtain ⟨ok, hne⟩ := stB_iff.1 hs
      obtain ⟨N, hN⟩ : ∃ N, n.toNat = N := ⟨_, rfl⟩
      obtain ⟨T, hT⟩ : ∃ T, t.toNat = T := ⟨_, rfl⟩
      have hte : t = (T : Int) := by have := inB_iff.1 ht; omega
      have hT12 : T = 1 ∨ T = 2 := by have := inB_iff.1 ht; omega
      rw [hN] at ok hne hf
      rw [hT] at hf
      subst hne hte
      have OK := Lib.hid ok
      have HT := Lib.hid hT12
      have hm2 := ok.m2
      clear hs ht hN hT ok hT12
      have eg : ∀ args w, (callFunc 57 args).run Try.prog w = .ok (.enter 57 args) w := enters_of Try.func57 (by kernel_rfl) rfl
      have EG := Lib.hid eg
      clear eg
      go_enter Try.func16, Try.ntmps16
      go_wp2_with fail
      refine C0.out.mono ?_
      rintro e w1 ⟨rfl, hb1⟩
      have hB1 := hbt.trans (hb1.mono hbt.size)
      have htl1 : w.heap.size < w1.heap.size := Nat.lt_of_lt_of_le htl hb1.size
      have htc1 := (hb1.cell (p := ⟨w.heap.size, 0, none⟩) htl).trans htc
      go_wp2_with fail
      refine (C2 _).out.mono ?_
      rintro e w' ⟨rfl, rfl⟩
      go_wp2_with fail
      refine (outlookOf_any _ L N _ OK.out (HR.out.later hb1)).mono ?_
      rintro e w2 ⟨uv, rfl, hv, hb2⟩
      have hB2 := hB1.trans (hb2.mono hB1.size)
      have htl2 : w.heap.size < w2.heap.size := Nat.lt_of_lt_of_le htl1 hb2.size
      have htc2 := (hb2.cell (p := ⟨w.heap.size, 0, none⟩) htl1).trans htc1
      obtain ⟨au, cu, rfl⟩ := hv.len
      have hbx := Var2.new w2 (.int .u64 ((2 ^ N - 1 : Nat) : Int)) (.slice au L.length cu) 65
      have hal := (Below.refl w2.heap.size w2).alloc (Nat.le_refl _) (.cells #[.int .u64 ((2 ^ N - 1 : Nat) : Int), .slice au L.length cu] 65)
      have hrv := hv.later hal
      have hB3 := hB2.trans (hal.mono hB2.size)
      have htc3 := (hal.cell (p := ⟨w.heap.size, 0, none⟩) htl2).trans htc2
      have htl3 : w.heap.size < (w2.alloc (.cells #[.int .u64 ((2 ^ N - 1 : Nat) : Int), .slice au L.length cu] 65)).heap.size := Nat.lt_of_lt_of_le htl2 hal.size
      clear hv hal htc1 htc2 htl1 htl2 hb2 hB1 hB2 hb1
      have hFN : Hid (∀ (W : World) (size : Nat), Below (w2.alloc (.cells #[.int .u64 ((2 ^ N - 1 : Nat) : Int), .slice au L.length cu] 65)).heap.size (w2.alloc (.cells #[.int .u64 ((2 ^ N - 1 : Nat) : Int), .slice au L.length cu] 65)) W → size ≤ 16 →
          Calls Try.prog 56 #[.int .i64 size, .int .i64 L.length, .func (.func 57) #[] #[.pointer (some ⟨w2.heap.size, 0, none⟩), .pointer (some ⟨w.heap.size, 0, none⟩)]] W (FnPost (lcP L N T) size L.length W)) := Lib.hid fun W size hW hsz => by
        refine firstNumbers_any 57 #[] #[.pointer (some ⟨w2.heap.size, 0, none⟩), .pointer (some ⟨w.heap.size, 0, none⟩)] (lcP L N T) size L.length W EG.out hsz (by omega) ?_
        intro y l hy hl hll
        have hyb := hW.trans (hy.mono hW.size)
        have := clCover_any _ L N (setN l) T w2.heap.size w.heap.size y OK.out (setN_lt16 (ris16 OK.out hl)) HT.out (hrv.later hyb) (hbx.next hyb) ((hyb.cell (p := ⟨w.heap.size, 0, none⟩) htl3).trans htc3)
        rw [nums_setN hl] at this
        exact this
      clear hbx hrv htc3 htl3
      obtain ⟨m, hme⟩ : ∃ m, m = L.length := ⟨_, rfl⟩
      have HM := Lib.hid hme
      rw [← hme] at hFN hB3 hf hm2 ⊢
      clear hme
      generalize 2 ^ N - 1 = P1 at *
      go_wp2
      generalize w2.alloc (.cells #[.int .u64 P1, .slice au m cu] 65) = w3 at *
      go_loopw [27] (fun i wr => ∃ q : Nat, q ≤ m + 1 ∧ i = .int .i64 q ∧ Hid (∀ k, k < q → FN (lcP L N T) k m none) ∧ Below w3.heap.size w3 wr) (fun i _ => m + 1 - (intOf i).toNat)
      case atStart => exact ⟨0, Nat.zero_le _, rfl, Lib.hid fun k hk => by omega, Below.refl _ _⟩
      case round =>
        obtain ⟨q, hq, rfl, hall, hb⟩ := hrel
        by_cases hlt : q < m + 1
        · have C4 := hFN.out wr q hb (by omega)
          go_wp2_with fail
          refine C4.mono ?_
          rintro e w4 ⟨r, v4, rfl, hF, ho, hb4⟩
          have hB4 := hb.trans (hb4.mono hb.size)
          have hBB := hB3.trans (hB4.mono hB3.size)
          cases r with
          | none =>
            have hall' : Hid (∀ k, k < q + 1 → FN (lcP L N T) k m none) := Lib.hid fun k hk => by
              by_cases e : k = q
              · subst e; exact hF
              · exact hall.out k (by omega)
            clear hF ho
            go_wp2
            go_roundw
            case rel => exact ⟨q + 1, by omega, by go_num, hall', hB4⟩
            case measure => simp [intOf]; omega
          | some l =>
            have hL : Hid (lcR L (N : Int) (T : Int) = some l) := Lib.hid (by rw [hf.out]; exact isL_of_found hF hall.out)
            have HO := Lib.hid (show Own w4 w.heap.size v4 l from ho.base (by have := hB3.size; have := hb.size; omega))
            clear hF ho
            go_wp2
            go_ret2
            exact LcPost.yes hL.out HO.out hBB
        · have hL : Hid (lcR L (N : Int) (T : Int) = none) := Lib.hid (by rw [hf.out]; exact isL_of_none (fun k hk => hall.out k (by omega)))
          have hBB := hB3.trans (hb.mono hB3.size)
          go_wp2
          go_ret2
          exact LcPost.no hL.out hBB
end Go.Proofs.Ytpmdjdlojbpcfaa
