/- Walks of laws of chapter 1: NearestSignals, ReadSignal. -/
import Derived.Test.YtpddnpkhhmjomaaRows
import Derived.Test.YtpddnpkhhmjomaaS1e
import Derived.Test.YtpddnpkhhmjomaaS1c
namespace Go.Proofs.Ytpddnpkhhmjomaa
open Go.ChangeShapes Go.WideShapes Go.ChangeAt Go.RowKit
set_option linter.unusedVariables false
set_option linter.unusedSimpArgs false

set_option maxHeartbeats 1000000 in
theorem FnExactNearestSignals_yes (a0 : Int) (a1 : Option Addr) (len1 cap1 : Nat) (zs : List Int) (w : World) (hlong : ¬ 1048576 < len1) (HR : Hid (Rd w (.slice a1 len1 cap1) zs)) (hlz : zs.length ≤ 1048576) (hn : isSig a0 = true) (hls : lsB zs = true) (h0 : zs ≠ []) :
    Calls Try.prog 12 #[.int .i64 a0, .slice a1 len1 cap1] w fun e w' => e = .returned (.bool true) ∧ Below w.heap.size w w' := by
  have hlen : (near a0 zs).length ≤ 1048576 := by unfold near; exact Nat.le_trans (nearTo_len _ _ _ _) hlz
  go_enter Try.func12, Try.ntmps12
  go_wp2_with fail
  refine (toIntS_any _ zs _ (by omega) HR.out).mono ?_
  rintro e w1 ⟨v1, rfl, ho1, hb1⟩
  have hb := hb1
  go_wp2_with fail
  refine (specNear_yes _ _ zs _ ho1.rd hn hls h0).mono ?_
  rintro e w2 ⟨vw, rfl, how, hb2⟩
  have hb := hb.trans (hb2.mono hb1.size)
  have how := how.base (hb1.size)
  clear hb1
  go_wp2_with fail
  refine (toIntS_any _ zs _ (by omega) (HR.out.later hb)).mono ?_
  rintro e w3 ⟨vx, rfl, hox, hb3⟩
  have hap1 := how.apart (Nat.le_refl _) hox
  have how := how.later hb3
  have hs := hb.size
  have hox := hox.base hs
  have hb := hb.trans (hb3.mono hs)
  clear hs hb3
  go_wp2_with fail
  refine (implNear_yes _ _ zs _ hox.rd hn hls h0).mono ?_
  rintro e w4 ⟨vg, rfl, hog, hb4⟩
  have hap2 := how.apart (Nat.le_refl _) hog
  have hap3 := hox.apart (Nat.le_refl _) hog
  have how := how.later hb4
  have hox := hox.later hb4
  have hs := hb.size
  have hog := hog.base hs
  have hb := hb.trans (hb4.mono hs)
  clear hs hb4
  go_wp2_with fail
  refine (eqIntS_true _ _ _ _ hog.rd how.rd).mono ?_
  rintro e w5 ⟨rfl, n5, rfl⟩
  have how := how.drewN n5
  have hox := hox.drewN n5
  have hog := hog.drewN n5
  have hb := below_drewN hb n5
  generalize World.drewN _ n5 = w5 at *
  go_wp2_with fail
  refine (toIntS_any _ zs _ (by omega) (HR.out.later hb)).mono ?_
  rintro e w6 ⟨v6, rfl, ho6, hb6⟩
  have how := how.later hb6
  have hox := hox.later hb6
  have hog := hog.later hb6
  have hb := hb.trans (hb6.mono hb.size)
  clear hb6
  go_wp2_with fail
  refine (eqIntS_true _ _ _ _ hox.rd ho6.rd).mono ?_
  rintro e w7 ⟨rfl, n7, rfl⟩
  have how := how.drewN n7
  have hox := hox.drewN n7
  have hog := hog.drewN n7
  have hb := below_drewN hb n7
  clear ho6
  generalize World.drewN _ n7 = w7 at *
  go_wp2_with fail
  refine (markIntS_any _ _ zs 1 _ (by decide) (by decide) (by omega) hox).mono ?_
  rintro e w8 ⟨rfl, hox', hg⟩
  have how := how.kept hg hap1
  have hog := hog.kept hg (by cases hvg : Value.ownBlock _ with | none => exact .inl rfl | some k => (refine .inr ?_; rw [← hvg]; rcases hap3 with h | h; (rw [h]; rw [hvg]; simp); exact h.symm))
  have hb := hb.grown hg hb.size (fun k hk => (hox.lt k hk).1)
  clear hg hox hox' hap1 hap3
  go_wp2_with fail
  refine (eqIntS_true _ _ _ _ hog.rd how.rd).mono ?_
  rintro e w9 ⟨rfl, n9, rfl⟩
  have how := how.drewN n9
  have hog := hog.drewN n9
  have hb := below_drewN hb n9
  generalize World.drewN _ n9 = w9 at *
  go_wp2_with fail
  refine (markIntS_any _ _ (near a0 zs) 1 _ (by decide) (by decide) (by omega) hog).mono ?_
  rintro e w10 ⟨rfl, hog', hg⟩
  have how := how.kept hg hap2
  have hb := hb.grown hg hb.size (fun k hk => (hog.lt k hk).1)
  clear hg hog hap2
  go_wp2_with fail
  refine (heldIntS_any _ _ 1 _ (by decide) (by decide) (by omega) hog'.rd).mono ?_
  rintro e w11 ⟨rfl, rfl⟩
  go_wp2_with fail
  refine (toIntS_any _ zs _ (by omega) (HR.out.later hb)).mono ?_
  rintro e w12 ⟨v12, rfl, ho12, hb12⟩
  have how := how.later hb12
  have hog' := hog'.later hb12
  have hb := hb.trans (hb12.mono hb.size)
  clear hb12
  go_wp2_with fail
  refine (implNear_yes _ _ zs _ ho12.rd hn hls h0).mono ?_
  rintro e w13 ⟨vh, rfl, hoh, hb13⟩
  have how := how.later hb13
  have hog' := hog'.later hb13
  have hb := hb.trans (hb13.mono hb.size)
  go_wp2_with fail
  refine (eqIntS_true _ _ _ _ hoh.rd how.rd).mono ?_
  rintro e w14 ⟨rfl, n14, rfl⟩
  have hog' := hog'.drewN n14
  have hb := below_drewN hb n14
  go_wp2_with fail
  refine (heldIntS_any _ _ 1 _ (by decide) (by decide) (by omega) hog'.rd).mono ?_
  rintro e w15 ⟨rfl, rfl⟩
  go_wp2
  go_ret
  exact ⟨rfl, hb⟩

set_option maxHeartbeats 1000000 in
theorem FnExactNearestSignals_no (a0 : Int) (a1 : Option Addr) (len1 cap1 : Nat) (zs : List Int) (w : World) (hlong : ¬ 1048576 < len1) (HR : Hid (Rd w (.slice a1 len1 cap1) zs)) (hlz : zs.length ≤ 1048576) (hno : isSig a0 = false ∨ lsB zs = false ∨ zs = []) :
    Calls Try.prog 12 #[.int .i64 a0, .slice a1 len1 cap1] w fun e w' => e = .returned (.bool true) ∧ Below w.heap.size w w' := by
  have hlen : ([] : List Int).length ≤ 1048576 := by simp
  go_enter Try.func12, Try.ntmps12
  go_wp2_with fail
  refine (toIntS_any _ zs _ (by omega) HR.out).mono ?_
  rintro e w1 ⟨v1, rfl, ho1, hb1⟩
  have hb := hb1
  go_wp2_with fail
  refine (specNear_no _ _ zs _ ho1.rd hno).mono ?_
  rintro e w2 ⟨rfl, rfl⟩
  have how := Own.nil w1 w.heap.size
  clear hb1
  go_wp2_with fail
  refine (toIntS_any _ zs _ (by omega) (HR.out.later hb)).mono ?_
  rintro e w3 ⟨vx, rfl, hox, hb3⟩
  have hap1 := how.apart (Nat.le_refl _) hox
  have how := how.later hb3
  have hs := hb.size
  have hox := hox.base hs
  have hb := hb.trans (hb3.mono hs)
  clear hs hb3
  go_wp2_with fail
  refine (implNear_no _ _ zs _ hox.rd hno).mono ?_
  rintro e w4 ⟨rfl, rfl⟩
  have hog := Own.nil w3 w.heap.size
  have hap2 : (Value.slice none 0 0).ownBlock = none ∨ (Value.slice none 0 0).ownBlock ≠ (Value.slice none 0 0).ownBlock := .inl rfl
  have hap3 : vx.ownBlock = none ∨ vx.ownBlock ≠ (Value.slice none 0 0).ownBlock := by
    cases hvx : vx.ownBlock with
    | none => exact .inl rfl
    | some k => exact .inr (by simp [Value.ownBlock])
  go_wp2_with fail
  refine (eqIntS_true _ _ _ _ hog.rd how.rd).mono ?_
  rintro e w5 ⟨rfl, n5, rfl⟩
  have how := how.drewN n5
  have hox := hox.drewN n5
  have hog := hog.drewN n5
  have hb := below_drewN hb n5
  generalize World.drewN _ n5 = w5 at *
  go_wp2_with fail
  refine (toIntS_any _ zs _ (by omega) (HR.out.later hb)).mono ?_
  rintro e w6 ⟨v6, rfl, ho6, hb6⟩
  have how := how.later hb6
  have hox := hox.later hb6
  have hog := hog.later hb6
  have hb := hb.trans (hb6.mono hb.size)
  clear hb6
  go_wp2_with fail
  refine (eqIntS_true _ _ _ _ hox.rd ho6.rd).mono ?_
  rintro e w7 ⟨rfl, n7, rfl⟩
  have how := how.drewN n7
  have hox := hox.drewN n7
  have hog := hog.drewN n7
  have hb := below_drewN hb n7
  clear ho6
  generalize World.drewN _ n7 = w7 at *
  go_wp2_with fail
  refine (markIntS_any _ _ zs 1 _ (by decide) (by decide) (by omega) hox).mono ?_
  rintro e w8 ⟨rfl, hox', hg⟩
  have how := how.kept hg hap1
  have hog := hog.kept hg (by cases hvg : Value.ownBlock _ with | none => exact .inl rfl | some k => (refine .inr ?_; rw [← hvg]; rcases hap3 with h | h; (rw [h]; rw [hvg]; simp); exact h.symm))
  have hb := hb.grown hg hb.size (fun k hk => (hox.lt k hk).1)
  clear hg hox hox' hap1 hap3
  go_wp2_with fail
  refine (eqIntS_true _ _ _ _ hog.rd how.rd).mono ?_
  rintro e w9 ⟨rfl, n9, rfl⟩
  have how := how.drewN n9
  have hog := hog.drewN n9
  have hb := below_drewN hb n9
  generalize World.drewN _ n9 = w9 at *
  go_wp2_with fail
  refine (markIntS_any _ _ [] 1 _ (by decide) (by decide) (by omega) hog).mono ?_
  rintro e w10 ⟨rfl, hog', hg⟩
  have how := how.kept hg hap2
  have hb := hb.grown hg hb.size (fun k hk => (hog.lt k hk).1)
  clear hg hog hap2
  go_wp2_with fail
  refine (heldIntS_any _ _ 1 _ (by decide) (by decide) (by omega) hog'.rd).mono ?_
  rintro e w11 ⟨rfl, rfl⟩
  go_wp2_with fail
  refine (toIntS_any _ zs _ (by omega) (HR.out.later hb)).mono ?_
  rintro e w12 ⟨v12, rfl, ho12, hb12⟩
  have how := how.later hb12
  have hog' := hog'.later hb12
  have hb := hb.trans (hb12.mono hb.size)
  clear hb12
  go_wp2_with fail
  refine (implNear_no _ _ zs _ ho12.rd hno).mono ?_
  rintro e w13 ⟨rfl, rfl⟩
  have hoh := Own.nil w12 w.heap.size
  go_wp2_with fail
  refine (eqIntS_true _ _ _ _ hoh.rd how.rd).mono ?_
  rintro e w14 ⟨rfl, n14, rfl⟩
  have hog' := hog'.drewN n14
  have hb := below_drewN hb n14
  go_wp2_with fail
  refine (heldIntS_any _ _ 1 _ (by decide) (by decide) (by omega) hog'.rd).mono ?_
  rintro e w15 ⟨rfl, rfl⟩
  go_wp2
  go_ret
  exact ⟨rfl, hb⟩

theorem walk_FnExactNearestSignals (a0 : Int) (a1 : Option Addr) (len1 cap1 : Nat) (z1 : List Int) (w : World) (w0 : (Lit.int .i64 a0).wf = true) (w1 : IsRow .i64 w a1 len1 cap1 z1) :
    Calls Try.prog 12 #[.int .i64 a0, .slice a1 len1 cap1] w fun e w' => e = .returned (.bool true) ∧ Below w.heap.size w w' := by
  by_cases hlong : 1048576 < len1
  · clear w1
    go_enter Try.func12, Try.ntmps12
    go_wp2
    go_ret
    exact ⟨rfl, Below.refl _ _⟩
  · have hr := w1.rd
    have hl0 := w1.len
    obtain ⟨zs, hzs⟩ : ∃ zs, zs = z1.take len1 := ⟨_, rfl⟩
    rw [← hzs] at hr hl0
    have hlz : zs.length ≤ 1048576 := by omega
    cases hn : isSig a0 with
    | false => exact FnExactNearestSignals_no a0 a1 len1 cap1 zs w hlong (Lib.hid hr) hlz (.inl hn)
    | true =>
      cases hls : lsB zs with
      | false => exact FnExactNearestSignals_no a0 a1 len1 cap1 zs w hlong (Lib.hid hr) hlz (.inr (.inl hls))
      | true =>
        by_cases h0 : zs = []
        · exact FnExactNearestSignals_no a0 a1 len1 cap1 zs w hlong (Lib.hid hr) hlz (.inr (.inr h0))
        · exact FnExactNearestSignals_yes a0 a1 len1 cap1 zs w hlong (Lib.hid hr) hlz hn hls h0

theorem walk_FnExactReadSignal (a0 : ByteArray) (w : World) (w0 : a0.size ≤ maxLen) :
    Calls Try.prog 6 #[.string a0] w fun e w' => e = .returned (.bool true) ∧ Below w.heap.size w w' := by
  unfold maxLen at w0
  by_cases hlong : 1048576 < a0.size
  · go_enter Try.func6, Try.ntmps6
    go_wp2
    go_ret
    exact ⟨rfl, Below.refl _ _⟩
  · by_cases h : okL a0.toList
    · have H := Lib.hid h
      clear h
      go_enter Try.func6, Try.ntmps6
      go_wp2_with fail
      refine (specRead_yes _ _ H.out).mono ?_
      rintro e w1 ⟨rfl, rfl⟩
      go_wp2_with fail
      refine (implRead_yes _ _ H.out).mono ?_
      rintro e w1 ⟨rfl, hb⟩
      go_wp2
      go_ret
      exact ⟨rfl, hb⟩
    · have H := Lib.hid h
      clear h
      go_enter Try.func6, Try.ntmps6
      go_wp2_with fail
      refine (specRead_no _ _ H.out).mono ?_
      rintro e w1 ⟨rfl, rfl⟩
      go_wp2_with fail
      refine (implRead_no _ _ H.out).mono ?_
      rintro e w1 ⟨rfl, hb⟩
      go_wp2
      go_ret
      exact ⟨rfl, hb⟩
end Go.Proofs.Ytpddnpkhhmjomaa
