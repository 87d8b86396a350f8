/- Chapter 2: the phrases with a beginning. -/
import Derived.Test.YtkknmjioihnpkaaBkH
import Derived.Test.YtkknmjioihnpkaaApp
namespace Go.Proofs.Ytkknmjioihnpkaa
open Go.RowKit
set_option linter.unusedSimpArgs false
set_option linter.unusedVariables false

def hasPre (s t : ByteArray) : Bool := decide (t.size ≤ s.size) && ((s.extract 0 t.size).toList == t.toList)
theorem hasPre_no {s t : ByteArray} (h : ¬ t.size ≤ s.size) : hasPre s t = false := by simp [hasPre, h]
theorem hasPre_yes {s t : ByteArray} (h : t.size ≤ s.size) : hasPre s t = ((s.extract 0 t.size).toList == t.toList) := by simp [hasPre, h]
def begTo (ps : List Ph) (s : ByteArray) (k : Nat) : List Int := ((List.range k).filter fun i : Nat => hasPre (phAt ps i).txt s).map fun i : Nat => (i : Int)
theorem begTo_yes {ps : List Ph} {s : ByteArray} {k : Nat} (h : hasPre (phAt ps k).txt s = true) : begTo ps s (k + 1) = begTo ps s k ++ [(k : Int)] := by
  simp [begTo, List.range_succ, h]
theorem begTo_no {ps : List Ph} {s : ByteArray} {k : Nat} (h : hasPre (phAt ps k).txt s = false) : begTo ps s (k + 1) = begTo ps s k := by
  simp [begTo, List.range_succ, h]
theorem begTo_len (ps : List Ph) (s : ByteArray) (k : Nat) : (begTo ps s k).length ≤ k := by
  unfold begTo; rw [List.length_map]; exact Nat.le_trans (List.length_filter_le _ _) (by simp)
def begC (ps : List Ph) (s : ByteArray) : Bool := bookB ps && begB s
def begL (ps : List Ph) (s : ByteArray) : List Int := if begC ps s then begTo ps s ps.length else []
theorem begC_no {ps : List Ph} {s : ByteArray} (h : bookB ps = false) : begC ps s = false := by simp [begC, h]
theorem begC_txt {ps : List Ph} {s : ByteArray} (h : begB s = false) : begC ps s = false := by simp [begC, h]
theorem begC_yes {ps : List Ph} {s : ByteArray} (h : bookB ps = true) (h2 : begB s = true) : begC ps s = true := by simp [begC, h, h2]
theorem begL_no {ps : List Ph} {s : ByteArray} (h : begC ps s = false) : begL ps s = [] := by simp [begL, h]
theorem begL_yes {ps : List Ph} {s : ByteArray} (h : begC ps s = true) : begL ps s = begTo ps s ps.length := by simp [begL, h]
theorem begL_len {ps : List Ph} (s : ByteArray) (n : Nat) (h : ps.length ≤ n) : (begL ps s).length ≤ n := by
  unfold begL; split
  · have := begTo_len ps s ps.length; omega
  · simp
def BegPost (ps : List Ph) (s : ByteArray) (w : World) (e : Ending) (w' : World) : Prop := ∃ v, e = .returned (.tuple #[v, .bool (begC ps s)]) ∧ Own w' w.heap.size v (begL ps s) ∧ Below w.heap.size w w'

theorem hasPrefix_any (s t : ByteArray) (w : World) (hs : s.size ≤ maxLen) (ht : t.size ≤ maxLen) :
    Calls Try.prog 70 #[.string s, .string t] w fun e w' => e = .returned (.bool (hasPre s t)) ∧ w = w' := by
  unfold maxLen at hs ht
  have h95 : Calls Try.prog 95 #[.string s, .string t] w fun e w' => e = .returned (.bool (hasPre s t)) ∧ w = w' := by
    by_cases h : t.size ≤ s.size
    · have hf := Lib.hid (hasPre_yes h)
      go_enter Try.func95, Try.ntmps95
      go_wp2
      go_ret
      exact ⟨ret_bool hf.out.symm, rfl⟩
    · have hf := Lib.hid (hasPre_no h)
      go_enter Try.func95, Try.ntmps95
      go_wp2
      go_ret
      exact ⟨ret_bool hf.out.symm, rfl⟩
  go_enter Try.func70, Try.ntmps70
  go_wp2_with fail
  refine h95.mono ?_
  rintro e w1 ⟨rfl, rfl⟩
  go_wp2
  go_ret
  exact ⟨rfl, rfl⟩

set_option maxRecDepth 100000 in
set_option maxHeartbeats 800000 in
theorem implBeg_any (v : Value) (ps : List Ph) (s : ByteArray) (w : World) (hs : s.size ≤ maxLen) (hr : RdPs w v ps) :
    Calls Try.prog 38 #[.agg #[v], .string s] w (BegPost ps s w) := by
  have hss := hs
  unfold maxLen at hss
  obtain ⟨a, cap, rfl, -⟩ := hr.len
  have hbW := (Below.refl w.heap.size w).alloc (Nat.le_refl _) (.cells #[.slice a ps.length cap] 25)
  have hrW := hr.later hbW
  have hcW : (w.alloc (.cells #[.slice a ps.length cap] 25)).cell? ⟨w.heap.size, 0, none⟩ = some (.slice a ps.length cap) := by simp [go_sem]
  have hsW : w.heap.size < (w.alloc (.cells #[.slice a ps.length cap] 25)).heap.size := by simp
  go_enter Try.func38, Try.ntmps38
  go_wp2_with fail
  generalize w.alloc (.cells #[.slice a ps.length cap] 25) = W at *
  refine (implIsBook_any _ ps _ hrW).mono ?_
  rintro e w1 ⟨rfl, hb1⟩
  have c1 := hcW ▸ hb1.cell (p := ⟨w.heap.size, 0, none⟩) hsW
  cases hbk : bookB ps with
  | false =>
    have hf := Lib.hid (begC_no (s := s) hbk)
    go_wp2
    go_ret2
    exact ⟨_, by rw [hf.out]; rfl, by rw [begL_no hf.out]; exact Own.nil _ _, hbW.trans (hb1.mono hbW.size)⟩
  | true =>
    have HB := Lib.hid hbk
    cases hbg : begB s with
    | false =>
      have hf := Lib.hid (begC_txt (ps := ps) hbg)
      go_wp2_with (go_at_call 58; refine (isPhraseBeginning_any _ _ hs).mono ?_; rintro e w2 ⟨rfl, hb2⟩)
      have hB2 := hb1.trans (hb2.mono hb1.size)
      go_ret2
      exact ⟨_, by rw [hf.out]; rfl, by rw [begL_no hf.out]; exact Own.nil _ _, hbW.trans (hB2.mono hbW.size)⟩
    | true =>
      have hf := Lib.hid (begC_yes HB.out hbg)
      have hn40 := (bookB_len HB.out).2
      obtain ⟨n, hn⟩ : ∃ n, n = ps.length := ⟨_, rfl⟩
      have HN := Lib.hid hn
      have HR := Lib.hid hr
      rw [← hn] at hn40 c1
      have hcW' : W.cell? ⟨w.heap.size, 0, none⟩ = some (.slice a n cap) := by rw [hn]; exact hcW
      simp only [← hn]
      clear hn hcW hrW hr
      go_wp2_with fail
      refine (isPhraseBeginning_any _ _ hs).mono ?_
      rintro e w2 ⟨rfl, hb2⟩
      have hB2 := hb1.trans (hb2.mono hb1.size)
      have c2 := hcW' ▸ hB2.cell (p := ⟨w.heap.size, 0, none⟩) hsW
      have hBw := hbW.trans (hB2.mono hbW.size)
      clear c1 hcW' hsW
      go_wp2
      go_loopw [6, 20] (fun u i wr => ∃ k : Nat, k ≤ n ∧ i = .int .i64 k ∧ Own wr w.heap.size u (begTo ps s k) ∧ Below w.heap.size w wr) (fun u i wr => n - (intOf i).toNat)
      case atStart => exact ⟨0, Nat.zero_le _, rfl, Own.nil _ _, hBw⟩
      case round =>
        obtain ⟨k, hk, rfl, hown, hbl⟩ := hrel
        have hln := begTo_len ps s k
        by_cases hlt : k < n
        · obtain ⟨g, off, u, rfl, hg, hts, hc0, hc1, hru⟩ := (HR.out.below hbl (Nat.le_refl _)).at_ (by rw [← HN.out]) k (by rw [← HN.out]; exact hlt)
          obtain ⟨ua, uc, rfl⟩ := hru.rd.len
          have htsm := hts
          unfold maxLen at htsm
          have hszl := hbl.size
          have hnc : ∀ o, ((wr.alloc o).alloc (.cells #[.int .i64 (k : Int)] 3)).cell? ⟨wr.heap.size + 1, 0, none⟩ = some (.int .i64 (k : Int)) := fun o => by simp [go_sem]
          cases hp : hasPre (phAt ps k).txt s with
          | true =>
            have hnext := Lib.hid (begTo_yes hp)
            have HP := Lib.hid hp
            go_wp2_with (first | (go_at_call 70; refine (hasPrefix_any _ _ _ hts hs).mono ?_; rintro e w9 ⟨rfl, rfl⟩) | (at_builtin; refine append_int rfl _ _ rfl w.heap.size _ (begTo ps s k) (k : Int) (wr.heap.size + 1) rfl rfl ((hown.alloc _).alloc _) (hnc _) (by omega) (by simp; omega) ?_; intro v' w2 hown2 hgrow2))
            go_roundw
            case rel => exact ⟨k + 1, by omega, by go_num, by rw [hnext.out]; exact hown2, ((hbl.alloc hszl _).alloc (by simp; omega) _).grown hgrow2 (by simp; omega) (fun j hj => (hown.lt j hj).1)⟩
            case measure => simp [intOf]; omega
          | false =>
            have hnext := Lib.hid (begTo_no hp)
            go_wp2_with (go_at_call 70; refine (hasPrefix_any _ _ _ hts hs).mono ?_; rintro e w9 ⟨rfl, rfl⟩)
            go_roundw
            case rel => exact ⟨k + 1, by omega, by go_num, by rw [hnext.out]; exact hown.alloc _, hbl.alloc hbl.size _⟩
            case measure => simp [intOf]; omega
        · obtain rfl : k = n := by omega
          have HL : Hid (begL ps s = begTo ps s k) := Lib.hid (by rw [begL_yes hf.out, ← HN.out])
          go_wp2
          go_ret2
          exact ⟨_, by rw [hf.out]; rfl, by rw [HL.out]; exact hown, hbl⟩

set_option maxRecDepth 100000 in
set_option maxHeartbeats 800000 in
theorem specBeg_any (v : Value) (ps : List Ph) (s : ByteArray) (w : World) (hs : s.size ≤ maxLen) (hr : RdPs w v ps) :
    Calls Try.prog 37 #[.agg #[v], .string s] w (BegPost ps s w) := by
  have hss := hs
  unfold maxLen at hss
  obtain ⟨a, cap, rfl, -⟩ := hr.len
  have hbW := (Below.refl w.heap.size w).alloc (Nat.le_refl _) (.cells #[.slice a ps.length cap] 25)
  have hrW := hr.later hbW
  have hcW : (w.alloc (.cells #[.slice a ps.length cap] 25)).cell? ⟨w.heap.size, 0, none⟩ = some (.slice a ps.length cap) := by simp [go_sem]
  have hsW : w.heap.size < (w.alloc (.cells #[.slice a ps.length cap] 25)).heap.size := by simp
  go_enter Try.func37, Try.ntmps37
  go_wp2_with fail
  generalize w.alloc (.cells #[.slice a ps.length cap] 25) = W at *
  refine (bkGood_any _ ps _ hrW).mono ?_
  rintro e w1 ⟨rfl, hb1⟩
  have c1 := hcW ▸ hb1.cell (p := ⟨w.heap.size, 0, none⟩) hsW
  cases hbk : bookB ps with
  | false =>
    have hf := Lib.hid (begC_no (s := s) hbk)
    go_wp2
    go_ret2
    exact ⟨_, by rw [hf.out]; rfl, by rw [begL_no hf.out]; exact Own.nil _ _, hbW.trans (hb1.mono hbW.size)⟩
  | true =>
    have HB := Lib.hid hbk
    cases hbg : begB s with
    | false =>
      have hf := Lib.hid (begC_txt (ps := ps) hbg)
      go_wp2_with (go_at_call 69; refine (bkLetters_any _ _ hs).mono ?_; rintro e w2 ⟨rfl, rfl⟩)
      have hB2 := hb1
      go_ret2
      exact ⟨_, by rw [hf.out]; rfl, by rw [begL_no hf.out]; exact Own.nil _ _, hbW.trans (hB2.mono hbW.size)⟩
    | true =>
      have hf := Lib.hid (begC_yes HB.out hbg)
      have hn40 := (bookB_len HB.out).2
      obtain ⟨n, hn⟩ : ∃ n, n = ps.length := ⟨_, rfl⟩
      have HN := Lib.hid hn
      have HR := Lib.hid hr
      rw [← hn] at hn40 c1
      have hcW' : W.cell? ⟨w.heap.size, 0, none⟩ = some (.slice a n cap) := by rw [hn]; exact hcW
      simp only [← hn]
      clear hn hcW hrW hr
      go_wp2_with fail
      refine (bkLetters_any _ _ hs).mono ?_
      rintro e w2 ⟨rfl, rfl⟩
      have hB2 := hb1
      have c2 := hcW' ▸ hB2.cell (p := ⟨w.heap.size, 0, none⟩) hsW
      have hBw := hbW.trans (hB2.mono hbW.size)
      clear c1 hcW' hsW
      go_wp2
      go_loopw [6, 20] (fun u i wr => ∃ k : Nat, k ≤ n ∧ i = .int .i64 k ∧ Own wr w.heap.size u (begTo ps s k) ∧ Below w.heap.size w wr) (fun u i wr => n - (intOf i).toNat)
      case atStart => exact ⟨0, Nat.zero_le _, rfl, Own.nil _ _, hBw⟩
      case round =>
        obtain ⟨k, hk, rfl, hown, hbl⟩ := hrel
        have hln := begTo_len ps s k
        by_cases hlt : k < n
        · obtain ⟨g, off, u, rfl, hg, hts, hc0, hc1, hru⟩ := (HR.out.below hbl (Nat.le_refl _)).at_ (by rw [← HN.out]) k (by rw [← HN.out]; exact hlt)
          obtain ⟨ua, uc, rfl⟩ := hru.rd.len
          have htsm := hts
          unfold maxLen at htsm
          have hszl := hbl.size
          have hnc : ∀ o, ((wr.alloc o).alloc (.cells #[.int .i64 (k : Int)] 3)).cell? ⟨wr.heap.size + 1, 0, none⟩ = some (.int .i64 (k : Int)) := fun o => by simp [go_sem]
          cases hp : hasPre (phAt ps k).txt s with
          | true =>
            have hnext := Lib.hid (begTo_yes hp)
            have hle : s.size ≤ (phAt ps k).txt.size := by
              refine Classical.byContradiction fun h => ?_
              rw [hasPre_no h] at hp; cases hp
            have hx : ((phAt ps k).txt.extract 0 s.size).toList == s.toList := by rw [← hasPre_yes hle]; exact hp
            clear hp
            go_wp2_with (at_builtin; refine append_int rfl _ _ rfl w.heap.size _ (begTo ps s k) (k : Int) (wr.heap.size + 1) rfl rfl ((hown.alloc _).alloc _) (hnc _) (by omega) (by simp; omega) ?_; intro v' w2 hown2 hgrow2)
            go_roundw
            case rel => exact ⟨k + 1, by omega, by go_num, by rw [hnext.out]; exact hown2, ((hbl.alloc hszl _).alloc (by simp; omega) _).grown hgrow2 (by simp; omega) (fun j hj => (hown.lt j hj).1)⟩
            case measure => simp [intOf]; omega
          | false =>
            have hnext := Lib.hid (begTo_no hp)
            by_cases hle : s.size ≤ (phAt ps k).txt.size
            · have hx : (((phAt ps k).txt.extract 0 s.size).toList == s.toList) = false := by rw [← hasPre_yes hle]; exact hp
              clear hp
              go_wp2
              go_roundw
              case rel => exact ⟨k + 1, by omega, by go_num, by rw [hnext.out]; exact hown.alloc _, hbl.alloc hbl.size _⟩
              case measure => simp [intOf]; omega
            · clear hp
              go_wp2
              go_roundw
              case rel => exact ⟨k + 1, by omega, by go_num, by rw [hnext.out]; exact hown.alloc _, hbl.alloc hbl.size _⟩
              case measure => simp [intOf]; omega
        · obtain rfl : k = n := by omega
          have HL : Hid (begL ps s = begTo ps s k) := Lib.hid (by rw [begL_yes hf.out, ← HN.out])
          go_wp2
          go_ret2
          exact ⟨_, by rw [hf.out]; rfl, by rw [HL.out]; exact hown, hbl⟩
end Go.Proofs.Ytkknmjioihnpkaa
