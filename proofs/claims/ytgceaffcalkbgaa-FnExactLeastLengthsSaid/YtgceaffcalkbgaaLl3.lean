/- Chapter 4: the model's least cost: what it answers. -/
import Derived.Test.YtgceaffcalkbgaaLl2
namespace Go.Proofs.Ytgceaffcalkbgaa
open Go.RowKit
set_option linter.unusedSimpArgs false
set_option linter.unusedVariables false

/-- The least of the takes from one on. -/
def Bst (S : List Int) (R h d F k : Nat) (b : Int) : Prop :=
  0 ≤ b ∧ b ≤ never ∧ (∀ t, k ≤ t → t ≤ F → b ≤ wC S R h d F t) ∧ (b = never ∨ ∃ t, k ≤ t ∧ t ≤ F ∧ b = wC S R h d F t)
theorem Bst.start (S : List Int) (R h d F : Nat) : Bst S R h d F (F + 1) never := ⟨by decide, Int.le_refl _, fun t h1 h2 => by omega, .inl rfl⟩
theorem wC_le (S : List Int) (R h d f t : Nat) : wC S R h d f t ≤ never := by unfold wC; omega
theorem Bst.next {S : List Int} {R h d F k : Nat} {b : Int} (hb : Bst S R h d F (k + 1) b) (hk : k ≤ F) (h0 : 0 ≤ wC S R h d F k) : Bst S R h d F k (min b (wC S R h d F k)) := by
  obtain ⟨b0, b1, b2, b3⟩ := hb
  refine ⟨by omega, by omega, ?_, ?_⟩
  · intro t h1 h2
    by_cases e : t = k
    · subst e; omega
    · have := b2 t (by omega) h2
      omega
  · by_cases e : b ≤ wC S R h d F k
    · rcases b3 with rfl | ⟨t, h1, h2, h3⟩
      · left; omega
      · right; exact ⟨t, by omega, h2, by omega⟩
    · right; exact ⟨k, Nat.le_refl _, hk, by omega⟩
theorem Bst.done {S : List Int} {R h d F : Nat} {b : Int} (hb : Bst S R h d F 0 b) : b = minT (wC S R h d F) F := by
  obtain ⟨b0, b1, b2, b3⟩ := hb
  refine minT_eq (fun t ht => b2 t (Nat.zero_le _) ht) ?_
  rcases b3 with rfl | ⟨t, h1, h2, h3⟩
  · refine ⟨F, Nat.le_refl _, ?_⟩
    have := b2 F (Nat.zero_le _) (Nat.le_refl _)
    have := wC_le S R h d F F
    omega
  · exact ⟨t, h2, h3⟩
theorem wC_nn {S : List Int} (hS : SmW S) {R h d f t : Nat} (hh : h ≤ 6) (hd : d + t ≤ S.length) : 0 ≤ wC S R h d f t := by
  have h1 := rest_le hS d
  have h2 := cC_le (R := R) hS hh (d + t) ((f - t) * R) hd
  unfold wC
  unfold never
  omega

set_option maxRecDepth 100000 in
set_option maxHeartbeats 2000000 in
theorem cost_end {S : List Int} {R lim B C t h : Nat} {A : TbA} (hS : SmW S) (hh : h ≤ lim) (hlim : lim ≤ 6) (f : Nat) (w : World) (hf : f ≤ 2000) (hT : Tb w t S R lim B C A) :
    Calls Try.prog 96 #[.pointer (some ⟨t, 0, none⟩), .int .i64 ((lim + 1 - h : Nat) : Int), .int .i64 (S.length : Int), .int .i64 (f : Int)] w fun e w' =>
    e = .returned (.int .i64 0) ∧ Tb w' t S R lim B C A ∧ Kp B C w w' := by
  have h20 := hS.1
  have c0 := hT.1.c0
  have H := Lib.hid hT
  obtain ⟨n, hn⟩ : ∃ n, n = S.length := ⟨_, rfl⟩
  rw [← hn] at c0 h20 ⊢
  clear hT hn
  go_enter Try.func96, Try.ntmps96
  go_wp2_with fail
  refine (l1Least_any _ _ _).mono ?_
  rintro e w2 ⟨rfl, rfl⟩
  go_wp2
  go_ret
  exact ⟨rfl, H.out, Kp.refl _ _ _⟩

set_option maxRecDepth 100000 in
set_option maxHeartbeats 2000000 in
theorem cost_out {S : List Int} {R lim B C t h : Nat} {A : TbA} (hS : SmW S) (hh : h ≤ lim) (hlim : lim ≤ 6) (d f : Nat) (w : World) (hd : d < S.length) (hf : f ≤ 2000) (hT : Tb w t S R lim B C A) (hz : h = 0 ∨ f = 0) :
    Calls Try.prog 96 #[.pointer (some ⟨t, 0, none⟩), .int .i64 ((lim + 1 - h : Nat) : Int), .int .i64 (d : Int), .int .i64 (f : Int)] w fun e w' =>
    e = .returned (.int .i64 never) ∧ Tb w' t S R lim B C A ∧ Kp B C w w' := by
  have h20 := hS.1
  have c0 := hT.1.c0
  have c2 := hT.1.c2
  have H := Lib.hid hT
  obtain ⟨n, hn⟩ : ∃ n, n = S.length := ⟨_, rfl⟩
  rw [← hn] at c0 h20 hd
  obtain ⟨l, hl⟩ : ∃ l : Nat, l = lim + 1 - h := ⟨_, rfl⟩
  rw [← hl]
  have hll : l ≤ 7 := by omega
  have hz' : lim < l ∨ f = 0 := by omega
  unfold never
  clear hT hn hl hz hh
  obtain ⟨F, hF⟩ : ∃ F : Nat, F = min f (n - d) := ⟨_, rfl⟩
  have hFe : Hid (min (f : Int) ((n : Int) - (d : Int)) = (F : Int)) := Lib.hid (by omega)
  have hFz : f = 0 → F = 0 := by omega
  clear hF
  by_cases hz : lim < l
  · clear hz' hFz
    go_enter Try.func96, Try.ntmps96
    go_wp2_with fail
    refine (l1Least_any _ _ _).mono ?_
    rintro e w2 ⟨rfl, rfl⟩
    go_wp2
    go_ret
    exact ⟨rfl, H.out, Kp.refl _ _ _⟩
  · have hle : l ≤ lim := by omega
    have hf0 : f = 0 := by omega
    have := hFz hf0
    subst this
    clear hz' hz hFz hf0
    go_enter Try.func96, Try.ntmps96
    go_wp2_with fail
    refine (l1Least_any _ _ _).mono ?_
    rintro e w2 ⟨rfl, rfl⟩
    rw [hFe.out]
    go_wp2
    go_ret
    exact ⟨rfl, H.out, Kp.refl _ _ _⟩

set_option maxRecDepth 100000 in
set_option maxHeartbeats 2000000 in
theorem cost_in {S : List Int} {R lim B C t h : Nat} {A : TbA} (hS : SmW S) (hR1 : 1 ≤ R) (hh : h + 1 ≤ lim) (hlim : lim ≤ 6) (hw : WithOk S R lim B C A t h) (d f : Nat) (w : World) (hd : d < S.length) (hf : f ≤ 2000) (hT : Tb w t S R lim B C A) (hf0 : 0 < f) :
    Calls Try.prog 96 #[.pointer (some ⟨t, 0, none⟩), .int .i64 ((lim - h : Nat) : Int), .int .i64 (d : Int), .int .i64 (f : Int)] w fun e w' =>
    e = .returned (.int .i64 (cC S R (h + 1) d f)) ∧ Tb w' t S R lim B C A ∧ Kp B C w w' := by
  have h20 := hS.1
  obtain ⟨F, hF⟩ : ∃ F : Nat, F = min f (S.length - d) := ⟨_, rfl⟩
  have hFe : Hid (min (f : Int) ((S.length : Int) - (d : Int)) = (F : Int)) := Lib.hid (by omega)
  have hF0 : 0 < F := by omega
  have hFn : F ≤ S.length - d := by omega
  have HV : Hid (cC S R (h + 1) d f = cC S R (h + 1) d F) := Lib.hid (by rw [hF, cC_clip hR1 (h + 1) d f (by omega)])
  have HM : Hid (cC S R (h + 1) d F = minT (wC S R h d F) F) := Lib.hid (by rw [cC_succ hd, Nat.min_eq_left hFn])
  have HW0 : Hid (∀ k, k ≤ F → 0 ≤ wC S R h d F k) := Lib.hid fun k hk => wC_nn hS (by omega) (by omega)
  have hcb := cC_le (R := R) hS (show h + 1 ≤ 6 by omega) d F (by omega)
  obtain ⟨l, hl⟩ : ∃ l : Nat, l = lim - h := ⟨_, rfl⟩
  have hl1 : l ≤ lim := by omega
  have hl2 : lim + 1 - l = h + 1 := by omega
  have HWITH : Hid (∀ k w, k ≤ F → Tb w t S R lim B C A → Calls Try.prog 97 #[.pointer (some ⟨t, 0, none⟩), .int .i64 (l : Int), .int .i64 (d : Int), .int .i64 (F : Int), .int .i64 (k : Int)] w fun e w' =>
      e = .returned (.int .i64 (wC S R h d F k)) ∧ Tb w' t S R lim B C A ∧ Kp B C w w') := Lib.hid fun k w hk hT => by
    rw [hl]; exact hw d F k w hd hk (by omega) (by omega) hT
  rw [HV.out]
  obtain ⟨cc, hcc⟩ : ∃ x, x = cC S R (h + 1) d F := ⟨_, rfl⟩
  obtain ⟨n, hn⟩ : ∃ n, n = S.length := ⟨_, rfl⟩
  have HDF : Hid (∀ W, Tb W t S R lim B C A → W.cell? ⟨t, 0, none⟩ = some (.slice (some ⟨A.gr, 0, none⟩) (n + 1) (n + 1)) ∧ W.cell? ⟨t, 2, none⟩ = some (.int .i64 (lim : Int)) ∧
      W.cell? ⟨t, 3, none⟩ = some (.slice (some ⟨A.gk, 0, none⟩) (lim + 1) A.ck) ∧ W.cell? ⟨A.gk, l, none⟩ = some (.slice (some ⟨A.L l, 0, none⟩) (n + 1) (A.cl l)) ∧
      W.cell? ⟨A.L l, d, none⟩ = some (.slice (some ⟨A.G l d, 0, none⟩) (n + 1) (A.cG l d)) ∧ ∃ v : Int, W.cell? ⟨A.G l d, F, none⟩ = some (.int .i64 v) ∧ W.frozen? ⟨A.G l d, F, none⟩ = false ∧ (v = 0 ∨ v = cc + 1)) :=
    Lib.hid fun W hW => by
      rw [hn]
      refine ⟨hW.1.c0, hW.1.c2, hW.1.c3, hW.1.kn l hl1, hW.1.lv l d hl1 (by omega), ?_⟩
      have := hW.2 l d F hl1 (by omega) (by omega)
      rw [hl2, ← hcc] at this
      exact this
  have HSET : Hid (∀ W, Tb W t S R lim B C A → Tb (W.setCell ⟨A.G l d, F, none⟩ (.int .i64 (cc + 1))) t S R lim B C A) := Lib.hid fun W hW => by
    have := hW.set hl1 (i := d) (f := F) (by omega) (by omega)
    rw [hl2, ← hcc] at this
    exact this
  have HNE : Hid (A.G l d ≠ t ∧ A.G l d ≠ A.gk ∧ A.G l d ≠ A.L l ∧ B ≤ A.G l d ∧ A.G l d < C) := Lib.hid (by
    obtain ⟨n1, n2, n3, n4⟩ := hT.1.ne l d hl1 (by omega)
    exact ⟨n1, n3, n4 l hl1, hT.1.low l d hl1 (by omega)⟩)
  obtain ⟨f0, f2, f3, f4, f5, v, f6, f7, f8⟩ := HDF.out w hT
  have H := Lib.hid hT
  rw [← hn] at h20 hd hFe
  rw [← hl]
  have HCC : Hid (∀ b, Bst S R h d F 0 b → b = cc) := Lib.hid fun b hb => by rw [hcc, HM.out]; exact hb.done
  rw [← hcc] at hcb
  obtain ⟨g, hg⟩ : ∃ g, g = A.G l d := ⟨_, rfl⟩
  obtain ⟨gl, hgl⟩ : ∃ g, g = A.L l := ⟨_, rfl⟩
  obtain ⟨cl, hcl⟩ : ∃ g, g = A.cl l := ⟨_, rfl⟩
  obtain ⟨cg, hcg⟩ : ∃ g, g = A.cG l d := ⟨_, rfl⟩
  rw [← hg] at f5 f6 f7 HDF HSET HNE
  rw [← hgl] at f4 f5 HDF HNE
  rw [← hcl] at f4 HDF
  rw [← hcg] at f5 HDF
  rw [← hcc]
  have HBS := Lib.hid (Bst.start S R h d F)
  unfold never at hcb HBS
  have hFn' : F ≤ n := by omega
  have hdn : d < n + 1 := by omega
  have hl6 : l ≤ 6 := by omega
  have hl0 : 1 ≤ l := by omega
  have hln : l < lim + 1 := by omega
  have hnl : ¬ lim < l := by omega
  have hFb : ((F : Int) == 0) = false := by simp; omega
  have hFi : ¬ (F : Int) = 0 := by omega
  have hdb : ((d : Int) == (n : Int)) = false := by simp; omega
  have hFn1 : F < n + 1 := by omega
  clear hcc hn hl hl2 hT hg hgl hcl hcg hF hFn hh hw
  by_cases hv : v = 0
  · subst hv
    clear f8
    go_enter Try.func96, Try.ntmps96
    go_wp2_with fail
    refine (l1Least_any _ _ _).mono ?_
    rintro e w2 ⟨rfl, rfl⟩
    rw [hFe.out]
    go_wp2
    go_loopw [10, 11] (fun b i wr => ∃ (k : Nat) (bb : Int), k ≤ F + 1 ∧ i = .int .i64 ((k : Int) - 1) ∧ b = .int .i64 bb ∧ Hid (Bst S R h d F k bb) ∧ Hid (Tb wr t S R lim B C A ∧ Kp B C w wr)) (fun b i wr => (intOf i + 1).toNat)
    case atStart => exact ⟨F + 1, 1000000000, Nat.le_refl _, by go_num, rfl, HBS, Lib.hid ⟨H.out, Kp.refl _ _ _⟩⟩
    case round =>
      obtain ⟨k, bb, hk, rfl, rfl, hb, hT⟩ := hrel
      have hb0 := hb.out.1
      have hb1 := hb.out.2.1
      unfold never at hb1
      obtain ⟨ws, hws⟩ : ∃ ws, ws = wr := ⟨_, rfl⟩
      subst hws
      by_cases hk0 : 0 < k
      · obtain ⟨q, rfl⟩ : ∃ q, k = q + 1 := ⟨k - 1, by omega⟩
        have e : ((q + 1 : Nat) : Int) - 1 = (q : Int) := by omega
        have hN := Lib.hid (hb.out.next (by omega) (HW0.out q (by omega)))
        rw [e]
        clear hb e hk0
        go_wp2_with fail
        refine (HWITH.out q _ (by omega) hT.out.1).mono ?_
        rintro e w3 ⟨rfl, hT3, hk3⟩
        have HT3 := Lib.hid (And.intro hT3 (hT.out.2.trans hk3))
        clear hT3 hk3 hT
        go_wp2_with fail
        refine (l1Least_any _ _ _).mono ?_
        rintro e w4 ⟨rfl, rfl⟩
        go_wp2
        go_roundw
        case rel => exact ⟨q, _, by omega, by go_num, rfl, hN, HT3⟩
        case measure => simp [intOf]
      · have : k = 0 := by omega
        subst this
        have := HCC.out _ hb.out
        subst this
        have hTT := hT.out.1
        obtain ⟨g0, g2, g3, g4, g5, v, g6, g7, g8⟩ := HDF.out _ hTT
        obtain ⟨n1, n2, n3, n4⟩ := HNE.out
        have HS := HSET.out _ hTT
        obtain ⟨s0, s2, s3, s4, s5, v', s6, s7, s8⟩ := HDF.out _ HS
        have s6' : (ws.setCell ⟨g, F, none⟩ (.int .i64 (bb + 1))).cell? ⟨g, F, none⟩ = some (.int .i64 (bb + 1)) := setc_same g6
        have HE := Lib.hid (hT.out.2.setCell (p := ⟨g, F, none⟩) n4 (.int .i64 (bb + 1)))
        have HS' := Lib.hid HS
        clear hTT HS hT g8 s8 s6
        go_wp2
        go_ret
        exact ⟨by go_num, HS'.out, HE.out⟩
  · have hv' : v = cc + 1 := by omega
    subst hv'
    clear f8
    go_enter Try.func96, Try.ntmps96
    go_wp2_with fail
    refine (l1Least_any _ _ _).mono ?_
    rintro e w2 ⟨rfl, rfl⟩
    rw [hFe.out]
    go_wp2
    go_ret
    exact ⟨rfl, H.out, Kp.refl _ _ _⟩

theorem cost_all {S : List Int} {R lim B C t : Nat} {A : TbA} (hS : SmW S) (hR1 : 1 ≤ R) (hR : R ≤ 60) (hlim : lim ≤ 6) : ∀ h, h ≤ lim → CostOk S R lim B C A t h
  | 0, hh => by
    intro d f w hd hf hT
    by_cases e : d = S.length
    · subst e
      rw [cC_end]
      exact cost_end hS hh hlim f w hf hT
    · rw [cC_zero (by omega)]
      exact cost_out hS hh hlim d f w (by omega) hf hT (.inl rfl)
  | h + 1, hh => by
    intro d f w hd hf hT
    by_cases e : d = S.length
    · subst e
      rw [cC_end]
      exact cost_end hS hh hlim f w hf hT
    · by_cases ef : f = 0
      · subst ef
        rw [cC_none hS (by omega)]
        exact cost_out hS hh hlim d 0 w (by omega) hf hT (.inr rfl)
      · rw [show lim + 1 - (h + 1) = lim - h by omega]
        exact cost_in hS hR1 hh hlim (with_any hS hR hlim hh (cost_all hS hR1 hR hlim h (by omega))) d f w (by omega) hf hT (by omega)
end Go.Proofs.Ytgceaffcalkbgaa
