/- Chapter 8: the most spots that are apart, of the model. -/
import Derived.Test.YtpmdjdlojbpcfaaStF
namespace Go.Proofs.Ytpmdjdlojbpcfaa
open Go.RowKit
set_option linter.unusedSimpArgs false
set_option linter.unusedVariables false

theorem l1Own_any (v : Value) (zs : List Int) (w : World) (hz : zs.length ≤ 1099511627776) (hr : Rd w v zs) :
    Calls Try.prog 77 #[v] w fun e w' => ∃ v', e = .returned v' ∧ Own w' w.heap.size v' zs ∧ Below w.heap.size w w' := by
  have he := Own.empty w w.heap.size (Nat.le_refl _)
  have hb := (Below.refl w.heap.size w).alloc (Nat.le_refl _) (.cells #[] 3)
  have hr1 := hr.later hb
  obtain ⟨a, cap, hv⟩ := hr.len
  subst hv
  have HR := Lib.hid hr1
  have HE := Lib.hid he
  clear hr hr1 he
  go_enter Try.func77, Try.ntmps77
  go_wp2_with (at_builtin; refine append_ints rfl _ _ rfl w.heap.size _ [] zs _ rfl rfl HE.out HR.out (by simpa using hz) (by simp) ?_; intro v' w1 hown1 hgrow1)
  go_ret
  exact ⟨_, rfl, by simpa using hown1, hb.grown hgrow1 (by simp) (fun k hk => (HE.out.lt k hk).1)⟩

theorem sm_form {b : Option Addr} {h capb B : Nat} {d have_ : List Int} {w : World} {bv : Value} (hbv : (bv = .slice b h capb ∧ d = []) ∨ Own w B bv (have_ ++ d)) (hh : h = have_.length) : ∃ (a3 : Option Addr) (c3 : Nat), bv = .slice a3 (h + d.length) c3 := by
  rcases hbv with ⟨h1, h2⟩ | ho
  · exact ⟨b, capb, by rw [h1, h2]; rfl⟩
  · obtain ⟨a3, c3, h1⟩ := ho.rd.len
    exact ⟨a3, c3, by rw [h1, List.length_append, hh]⟩
/-- What stMost hands back. -/
def SmPost (L : List (List Int)) (n : Nat) (have_ : List Int) (from_ : Nat) (u : Value) (w : World) (e : Ending) (w' : World) : Prop :=
  ∃ v' d, e = .returned v' ∧ (Ris d from_ n ∧ apB L (have_ ++ d) = true ∧ ∀ e, Ris e from_ n → apB L (have_ ++ e) = true → e.length ≤ d.length ∧ (e.length = d.length → lexB e d = false)) ∧
    ((v' = u ∧ d = []) ∨ Own w' w.heap.size v' (have_ ++ d)) ∧ Below w.heap.size w w'
set_option maxRecDepth 100000 in
set_option maxHeartbeats 4000000 in
theorem stMost_any (v : Value) (L : List (List Int)) (n : Nat) (ok : StOk L n) : ∀ (j : Nat) (u : Value) (have_ : List Int) (from_ : Nat) (w : World), n - from_ = j → from_ ≤ n → Ris have_ 0 from_ → apB L have_ = true → RdJ w v L → RdC w u have_ →
    Calls Try.prog 82 #[v, .int .i64 n, u, .int .i64 from_] w (SmPost L n have_ from_ u w) := by
  intro j
  induction j using Nat.strongRecOn with
  | _ j ih =>
  intro u have_ from_ w hj hfn hris hap hr hu
  have hn2 := ok.n2
  have hlf := hris.len (by omega)
  have hu' := hu
  obtain ⟨-, b, capb, rfl, hcb⟩ := hu
  obtain ⟨h, hhe⟩ : ∃ h, h = have_.length := ⟨_, rfl⟩
  have HH := Lib.hid hhe
  have HR := Lib.hid hr
  have HU : Hid (Rd w (.slice b h capb) have_) := Lib.hid (by rw [hhe]; exact hu'.1)
  have HI := Lib.hid hris
  have HS := Lib.hid (MaI.start (L := L) (n := n) (from_ := from_) hap)
  have IH := Lib.hid ih
  rw [← hhe] at hlf ⊢
  clear hhe hr hu' hris hap ih hcb
  obtain ⟨a, cap, rfl, -⟩ := HR.out.len
  obtain ⟨m, hme⟩ : ∃ m, m = L.length := ⟨_, rfl⟩
  have HM := Lib.hid hme
  rw [← hme] at HR IH ⊢
  clear hme
  go_enter Try.func82, Try.ntmps82
  go_wp2
  go_loopw [9, 10] (fun bv sv wr => ∃ (s : Nat) (d : List Int), from_ ≤ s ∧ s ≤ n ∧ sv = .int .i64 s ∧ Hid (MaI L n have_ from_ s d) ∧ ((bv = .slice b h capb ∧ d = []) ∨ Own wr w.heap.size bv (have_ ++ d)) ∧ Below w.heap.size w wr) (fun _ sv _ => n - (intOf sv).toNat)
  case atStart => exact ⟨from_, [], Nat.le_refl _, hfn, rfl, Lib.hid HS.out, .inl ⟨rfl, rfl⟩, Below.refl _ _⟩
  case round =>
    obtain ⟨s, d, hs1, hs2, rfl, hma, hbv, hb⟩ := hrel
    have hdl := hma.out.ris.len (by omega)
    obtain ⟨a3, c3, rfl⟩ := sm_form hbv HH.out
    obtain ⟨D, hD⟩ : ∃ D, D = d.length := ⟨_, rfl⟩
    have HD := Lib.hid hD
    have HV := Lib.hid hbv
    rw [← hD] at hdl HV ⊢
    clear hD hbv
    by_cases hlt : s < n
    · by_cases hst : n - s ≤ D
      · have hle : (h : Int) + (n : Int) - (s : Int) ≤ ((h + D : Nat) : Int) := by omega
        have hP : Hid (SmPost L n have_ from_ (.slice b h capb) w (.returned (.slice a3 (h + D) c3)) _) := Lib.hid ⟨_, d, rfl, ⟨hma.out.ris, hma.out.ap, hma.out.stop hs1 hs2 (by rw [← HD.out]; exact hst)⟩, HV.out, hb⟩
        clear hst
        go_wp2
        go_ret
        exact hP.out
      · have hle : ¬ (h : Int) + (n : Int) - (s : Int) ≤ ((h + D : Nat) : Int) := by omega
        clear hst
        go_wp2_with fail
        refine (l1Own_any _ have_ _ (by rw [← HH.out]; omega) (HU.out.below hb (Nat.le_refl _))).mono ?_
        rintro e w2 ⟨v2, rfl, ho2, hb2⟩
        have hB2 := hb.trans (hb2.mono hb.size)
        have hHl : have_.length ≤ 1099511627776 := by rw [← HH.out]; omega
        have hbs := hb.size
        have hz2 := hb2.size
        have hris2 : Ris (have_ ++ [(s : Int)]) 0 ((s + 1 : Nat) : Int) := (HI.out.wide (Int.le_refl _) (by omega)).snoc (by omega) (by omega)
        have hlen2 : (have_ ++ [(s : Int)]).length = h + 1 := by simp [HH.out]
        have hpos2 : ∀ x ∈ have_ ++ [(s : Int)], 0 ≤ x := fun x hx => (hris2.2 x hx).1
        have HRW := Lib.hid (fun W (hW : Below w.heap.size w W) => HR.out.below hW (Nat.le_refl _))
        have HO2 := Lib.hid ho2
        have HVV := Lib.hid (fun W (hW : Below wr.heap.size wr W) => HV.out.imp_right (fun ho => ho.later hW))
        clear ho2
        go_wp2_with (at_builtin; refine append_int rfl _ _ rfl wr.heap.size _ have_ (s : Int) w2.heap.size rfl rfl (HO2.out.alloc _) (new_cell _ _ _) hHl (by simp; omega) ?_; intro v3 w3 ho3 hg3)
        have hb3 : Below wr.heap.size wr w3 := (hb2.alloc hz2 _).grown hg3 (by simp; omega) (fun j hj => (HO2.out.lt j hj).1)
        have hB3 := hb.trans (hb3.mono hbs)
        have hz3 := hb3.size
        have CA := Lib.hid (stApart_any _ v3 L (have_ ++ [(s : Int)]) w3 hpos2 (by omega) (HRW.out w3 hB3) ho3.rd)
        have HO3 := Lib.hid ho3
        clear ho3 hg3
        cases hap2 : apB L (have_ ++ [(s : Int)]) with
        | false =>
          have hma' := Lib.hid (hma.out.skip hap2)
          rw [hap2] at CA
          clear hap2
          go_wp2_with fail
          refine CA.out.mono ?_
          rintro e w' ⟨rfl, rfl⟩
          go_wp2
          go_roundw
          case rel => exact ⟨s + 1, d, by omega, by omega, by go_num, hma', HVV.out _ hb3, hB3⟩
          case measure => simp [intOf]; omega
        | true =>
          rw [hap2] at CA
          have CR := Lib.hid (IH.out (n - (s + 1)) (by omega) v3 (have_ ++ [(s : Int)]) (s + 1) w3 rfl (by omega) hris2 hap2 (HRW.out w3 hB3) HO3.out.rdc)
          clear hap2
          go_wp2_with fail
          refine CA.out.mono ?_
          rintro e w' ⟨rfl, rfl⟩
          go_wp2_with fail
          refine CR.out.mono ?_
          rintro e w4 ⟨v4, r, rfl, ⟨hr1, hr2, hr3⟩, hov, hb4⟩
          have hB4 := hB3.trans (hb4.mono hB3.size)
          have hb34 := hb3.trans (hb4.mono hz3)
          have HOV : Hid (Own w4 w.heap.size v4 (have_ ++ [(s : Int)] ++ r)) := Lib.hid (by
            rcases hov with ⟨h1, h2⟩ | ho
            · rw [h1, h2, List.append_nil]; exact (HO3.out.later hb4).base hbs
            · exact ho.base (by omega))
          have hrl := hr1.len (by omega)
          have hma' := hma.out.step hs1 hlt hr1 hr2 hr3
          rw [← HD.out] at hma'
          obtain ⟨a4, c4, hv4⟩ := HOV.out.rd.len
          have hl4 : (have_ ++ [(s : Int)] ++ r).length = h + 1 + r.length := by rw [List.length_append, hlen2]
          rw [hl4] at hv4
          subst hv4
          obtain ⟨R, hR⟩ : ∃ R, R = r.length := ⟨_, rfl⟩
          rw [← hR] at hma' hrl HOV ⊢
          clear hR hl4 hov hr1 hr2 hr3
          by_cases hgt : D < R + 1
          · rw [if_pos hgt] at hma'
            have HMA := Lib.hid hma'
            have hgi : ((h + D : Nat) : Int) < ((h + 1 + R : Nat) : Int) := by omega
            have HOV2 : Hid (Own w4 w.heap.size (.slice a4 (h + 1 + R) c4) (have_ ++ (s : Int) :: r)) := Lib.hid (by simpa using HOV.out)
            clear hma' hgt
            go_wp2
            go_roundw
            case rel => exact ⟨s + 1, (s : Int) :: r, by omega, by omega, by go_num, HMA, .inr HOV2.out, hB4⟩
            case measure => simp [intOf]; omega
          · rw [if_neg hgt] at hma'
            have HMA := Lib.hid hma'
            have hgi : ¬ ((h + D : Nat) : Int) < ((h + 1 + R : Nat) : Int) := by omega
            clear hma' hgt
            go_wp2
            go_roundw
            case rel => exact ⟨s + 1, d, by omega, by omega, by go_num, HMA, HVV.out _ hb34, hB4⟩
            case measure => simp [intOf]; omega
    · obtain rfl : s = n := by omega
      have hP : Hid (SmPost L s have_ from_ (.slice b h capb) w (.returned (.slice a3 (h + D) c3)) _) := Lib.hid ⟨_, d, rfl, ⟨hma.out.ris, hma.out.ap, hma.out.stop hs1 hs2 (by omega)⟩, HV.out, hb⟩
      go_wp2
      go_ret
      exact hP.out

set_option maxRecDepth 100000 in
theorem specMostApart_any (v : Value) (L : List (List Int)) (n : Int) (w : World) (hr : RdJ w v L) :
    Calls Try.prog 36 #[v, .int .i64 n] w (MaPost L n w) := by
  have C0 := Lib.hid (stGood_any v L n w hr)
  cases hs : stB L n with
  | false =>
    have hf := Lib.hid hs
    rw [hs] at C0
    clear hs hr
    go_enter Try.func36, Try.ntmps36
    go_wp2_with fail
    refine C0.out.mono ?_
    rintro e w1 ⟨rfl, rfl⟩
    go_wp2
    go_ret2
    exact MaPost.no hf.out (Below.refl _ _)
  | true =>
    rw [hs] at C0
    have HS := Lib.hid hs
    obtain ⟨ok, hne⟩ := stB_iff.1 hs
    obtain ⟨N, hN⟩ : ∃ N, n.toNat = N := ⟨_, rfl⟩
    rw [hN] at ok hne
    subst hne
    have C1 := Lib.hid (stMost_any v L N ok N (.slice none 0 0) [] 0 w (by omega) (Nat.zero_le _) (Ris.nil _ _) (apB_iff.2 fun i _ => by simp) hr ⟨.inl ⟨rfl, _, _, rfl, fun _ => rfl⟩, _, _, rfl, Nat.le_refl _⟩)
    clear hs hN ok hr
    go_enter Try.func36, Try.ntmps36
    go_wp2_with fail
    refine C0.out.mono ?_
    rintro e w1 ⟨rfl, rfl⟩
    go_wp2_with fail
    refine C1.out.mono ?_
    rintro e w4 ⟨v4, d, rfl, hd, ho, hb⟩
    have HM : Hid (IsMost L ((N : Int)).toNat d) := Lib.hid (by
      obtain ⟨h1, h2, h3⟩ := hd
      exact ⟨by simpa using h1, by simpa using h2, fun e he hap => h3 e (by simpa using he) (by simpa using hap)⟩)
    have HO : Hid (Own w4 _ v4 d) := Lib.hid (by
      rcases ho with ⟨rfl, rfl⟩ | ho
      · exact Own.nil _ _
      · simpa using ho)
    clear hd ho
    go_wp2
    go_ret2
    exact MaPost.yes HS.out HM.out HO.out hb
end Go.Proofs.Ytpmdjdlojbpcfaa
