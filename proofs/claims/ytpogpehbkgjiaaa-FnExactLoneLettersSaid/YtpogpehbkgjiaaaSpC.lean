/- Chapter 3: the only reading as a text; texts of phrases. -/
import Derived.Test.YtpogpehbkgjiaaaSpA
import Derived.Test.YtpogpehbkgjiaaaSpB
namespace Go.Proofs.Ytpogpehbkgjiaaa
open Go.RowKit
set_option linter.unusedSimpArgs false
set_option linter.unusedVariables false

theorem stepR_ph {ps : List Ph} {r : Nat → Rst} {acc : Rst} {x : St} (hx : x.1 < ps.length) (h : acc.ex = true → acc.ph < ps.length) : (stepR ps r acc x).ex = true → (stepR ps r acc x).ph < ps.length := by
  unfold stepR
  split
  · exact fun _ => hx
  · exact h
theorem foldR_ph {ps : List Ph} {r : Nat → Rst} : ∀ (l : List St) (acc : Rst), (∀ x ∈ l, x.1 < ps.length) → (acc.ex = true → acc.ph < ps.length) → (l.foldl (stepR ps r) acc).ex = true → (l.foldl (stepR ps r) acc).ph < ps.length
  | [], acc, _, h => h
  | x :: l, acc, hl, h => by
    simp only [List.foldl_cons]
    exact foldR_ph l _ (fun y hy => hl y (by simp [hy])) (stepR_ph (hl x (by simp)) h)
theorem rests_inside {ps : List Ph} {n : Nat} {ss : Nat → List St} {r : Nat → Rst} (hR : Rests ps n ss r) (hi : Inside ps n ss) : ∀ b, b < n → (r b).ex = true → (r b).ph < ps.length := by
  intro b hb he
  rw [hR.2 b hb] at he ⊢
  exact foldR_ph (ss b) noRst (hi b hb) (fun h => by cases h) he
theorem path_in {r : Nat → Rst} {n np a : Nat} {l : List Int} (h : PathTo r n a l) (hl : Leads n r) (hi : ∀ b, b < n → (r b).ex = true → (r b).ph < np) (he : (r a).ex = true) : ∀ k, k < l.length → 0 ≤ l[k]?.getD 0 ∧ l[k]?.getD 0 < (np : Int) := by
  induction h with
  | done => intro k hk; simp at hk
  | step h1 h2 h3 h4 ih =>
    intro k hk
    cases k with
    | zero => have := hi _ h1 he; simp; omega
    | succ k => simpa using ih (hl _ h1 he).2.2 k (by simpa using hk)
noncomputable def rmC (ps : List Ph) (zs : List Int) : Bool := rdB ps zs && decide (waysF ps zs 0 = 1)
noncomputable def rmT (ps : List Ph) (zs : List Int) : ByteArray := if rmC ps zs = true then txtB ps (readL ps zs) else ⟨#[]⟩
theorem rmC_no1 {ps : List Ph} {zs : List Int} (h : rdB ps zs = false) : rmC ps zs = false := by simp [rmC, h]
theorem rmC_no2 {ps : List Ph} {zs : List Int} (h : ¬ waysF ps zs 0 = 1) : rmC ps zs = false := by simp [rmC, h]
theorem rmC_yes {ps : List Ph} {zs : List Int} (h : rdB ps zs = true) (h2 : waysF ps zs 0 = 1) : rmC ps zs = true := by simp [rmC, h, h2]
theorem rmT_no {ps : List Ph} {zs : List Int} (h : rmC ps zs = false) : rmT ps zs = ⟨#[]⟩ := by simp [rmT, h]
theorem rmT_yes {ps : List Ph} {zs : List Int} (h : rmC ps zs = true) : rmT ps zs = txtB ps (readL ps zs) := by simp [rmT, h]
theorem one_ex {ps : List Ph} {zs : List Int} (h : rdB ps zs = true) (h2 : waysF ps zs 0 = 1) : (sigR ps zs 0).ex = true := by
  cases hx : (sigR ps zs 0).ex with
  | true => rfl
  | false => have := (ex_zero (rdB_book h) (readB_len (rdB_read h)) (waysF_is (rdB_book h)) (sigR_is (rdB_book h))).2 hx; omega
theorem readL_in {ps : List Ph} {zs : List Int} (h : rdB ps zs = true) : ∀ k, k < (readL ps zs).length → 0 ≤ (readL ps zs)[k]?.getD 0 ∧ (readL ps zs)[k]?.getD 0 < (ps.length : Int) := by
  rw [readL_yes h]
  split
  · next hx => exact path_in (readL_path h hx) (rests_lead (sigR_is (rdB_book h)) (sigSt_ahead (rdB_book h) zs)) (rests_inside (sigR_is (rdB_book h)) (sigSt_inside ps zs)) hx
  · intro k hk; simp at hk

theorem specRead_any (v u : Value) (ps : List Ph) (zs : List Int) (w : World) (hr : RdPs w v ps) (hu : RdC w u zs) :
    Calls Try.prog 39 #[.agg #[v], u] w fun e w' => e = .returned (.tuple #[.string (rmT ps zs), .bool (rmC ps zs)]) ∧ Below w.heap.size w w' := by
  have hm := hu.rd.max
  unfold maxLen at hm
  obtain ⟨a, cap, rfl, -⟩ := hr.len
  have hb0 := (Below.refl w.heap.size w).alloc (Nat.le_refl _) (.cells #[.slice a ps.length cap] 31)
  have hrW := hr.later hb0
  have huW := hu.later hb0
  have hx0 : (w.alloc (.cells #[.slice a ps.length cap] 31)).cell? ⟨w.heap.size, 0, none⟩ = some (.slice a ps.length cap) := by simp [go_sem]
  have hsz0 : w.heap.size < (w.alloc (.cells #[.slice a ps.length cap] 31)).heap.size := by simp
  obtain ⟨-, au, cu, rfl, hcu⟩ := id hu
  cases hbk : rdB ps zs with
  | false =>
    have hC := Lib.hid (rmC_no1 hbk)
    go_enter Try.func39, Try.ntmps39
    go_wp2_with fail
    generalize w.alloc (.cells #[.slice a ps.length cap] 31) = W at *
    refine (spSignals_is _ _ ps zs false _ hbk hrW huW).mono ?_
    rintro e w1 ⟨rfl, hb1⟩
    go_wp2
    go_ret2
    exact ⟨by rw [rmT_no hC.out, hC.out]; rfl, hb0.trans (hb1.mono hb0.size)⟩
  | true =>
    have hb := rdB_book hbk
    have hl := readB_len (rdB_read hbk)
    have HCT := Lib.hid (waysF_is (zs := zs) hb)
    have HRS := Lib.hid (sigR_is (zs := zs) hb)
    have HLL := Lib.hid (readL_yes hbk)
    have HPA := Lib.hid (readL_path hbk)
    have HIN := Lib.hid (readL_in hbk)
    have HONE := Lib.hid (one_ex hbk)
    have HYES := Lib.hid (rmC_yes hbk)
    have HEXZ := Lib.hid (ex_zero hb hl HCT.out HRS.out)
    have HFG := Lib.hid (firstGood_is hb hl HCT.out HRS.out)
    go_enter Try.func39, Try.ntmps39
    go_wp2_with fail
    generalize w.alloc (.cells #[.slice a ps.length cap] 31) = W at *
    refine (spSignals_is _ _ ps zs true _ hbk hrW huW).mono ?_
    rintro e w1 ⟨rfl, hb1⟩
    have c1 := hx0 ▸ hb1.cell (p := ⟨w.heap.size, 0, none⟩) hsz0
    have hB1 := hb0.trans (hb1.mono hb0.size)
    go_wp2_with fail
    refine (spWays_any _ _ ps zs _ _ hb hl (hrW.later hb1) (huW.later hb1) HCT.out).mono ?_
    rintro e w2 ⟨g, rfl, hrow, hb2⟩
    have hc0 := hrow.at_ 0 (by omega)
    obtain ⟨m, hm'⟩ : ∃ m, m = zs.length + 1 := ⟨_, rfl⟩
    rw [← hm']
    have hm2 : (0 : Int) < (m : Int) := by omega
    have c2 : w2.cell? ⟨w.heap.size, 0, none⟩ = some (.slice a ps.length cap) := by rw [hb2.cell (p := ⟨w.heap.size, 0, none⟩) (Nat.lt_of_lt_of_le hsz0 hb1.size)]; exact c1
    have hb12 := hb1.trans (hb2.mono hb1.size)
    have hB2 := hb0.trans (hb12.mono hb0.size)
    obtain ⟨z, hz⟩ : ∃ z, z = waysF ps zs 0 := ⟨_, rfl⟩
    have HZ := Lib.hid hz
    rw [← hz] at hc0
    clear hrow hm' hz c1
    by_cases h1 : z = 1
    · have h1' := h1
      subst h1
      have hC := Lib.hid (HYES.out HZ.out.symm)
      have hT := Lib.hid (rmT_yes hC.out)
      go_wp2_with fail
      refine (spDecode_any _ _ ps zs (waysF ps zs) (sigR ps zs) (pathL (sigR ps zs) zs.length) _ hb hl (hrW.later hb12) (huW.later hb12) HCT.out HEXZ.out HFG.out (rests_lead HRS.out (sigSt_ahead hb zs)) HPA.out).mono ?_
      rintro e w3 ⟨v3, rfl, ho3, hb3⟩
      rw [← HLL.out] at ho3
      have c3 := c2 ▸ hb3.cell (p := ⟨w.heap.size, 0, none⟩) (Nat.lt_of_lt_of_le hsz0 hb12.size)
      have hb13 := hb12.trans (hb3.mono hb12.size)
      have hB3 := hb0.trans (hb13.mono hb0.size)
      go_wp2_with fail
      refine (spText_any _ _ ps (readL ps zs) _ (hrW.later hb13) ho3.rdc hb HIN.out (readL_len ps zs)).mono ?_
      rintro e w4 ⟨rfl, hb4⟩
      go_wp2
      go_ret2
      exact ⟨by rw [hT.out, hC.out]; rfl, hB3.trans (hb4.mono hB3.size)⟩
    · have hC : Hid (rmC ps zs = false) := Lib.hid (rmC_no2 (by rw [← HZ.out]; exact h1))
      have hne : (z != 1) = true := by rw [bne_iff_ne]; exact h1
      go_wp2
      go_ret2
      exact ⟨by rw [rmT_no hC.out, hC.out]; rfl, hB2⟩

theorem implRead_any (v u : Value) (ps : List Ph) (zs : List Int) (w : World) (hr : RdPs w v ps) (hu : RdC w u zs) :
    Calls Try.prog 40 #[.agg #[v], u] w fun e w' => e = .returned (.tuple #[.string (rmT ps zs), .bool (rmC ps zs)]) ∧ Below w.heap.size w w' := by
  have hm := hu.rd.max
  unfold maxLen at hm
  obtain ⟨a, cap, rfl, -⟩ := hr.len
  have hb0 := (Below.refl w.heap.size w).alloc (Nat.le_refl _) (.cells #[.slice a ps.length cap] 31)
  have hrW := hr.later hb0
  have huW := hu.later hb0
  have hx0 : (w.alloc (.cells #[.slice a ps.length cap] 31)).cell? ⟨w.heap.size, 0, none⟩ = some (.slice a ps.length cap) := by simp [go_sem]
  have hsz0 : w.heap.size < (w.alloc (.cells #[.slice a ps.length cap] 31)).heap.size := by simp
  obtain ⟨-, au, cu, rfl, hcu⟩ := id hu
  go_enter Try.func40, Try.ntmps40
  go_wp2_with fail
  generalize w.alloc (.cells #[.slice a ps.length cap] 31) = W at *
  refine (implCount_any _ _ ps zs _ hrW huW).mono ?_
  rintro e w1 ⟨rfl, hb1⟩
  have c1 := hx0 ▸ hb1.cell (p := ⟨w.heap.size, 0, none⟩) hsz0
  have hB1 := hb0.trans (hb1.mono hb0.size)
  obtain ⟨z, hz⟩ : ∃ z, z = waysN ps zs := ⟨_, rfl⟩
  have HZ := Lib.hid hz
  rw [← hz]
  clear hz
  cases hbk : rdB ps zs with
  | false =>
    have hC := Lib.hid (rmC_no1 hbk)
    clear hbk
    go_wp2
    go_ret2
    exact ⟨by rw [rmT_no hC.out, hC.out]; rfl, hB1⟩
  | true =>
    have hb := rdB_book hbk
    have HW : Hid (z = waysF ps zs 0) := Lib.hid (by rw [HZ.out]; unfold waysN; rw [hbk]; rfl)
    have HIN := Lib.hid (readL_in hbk)
    have HYES := Lib.hid (rmC_yes hbk)
    clear hbk
    by_cases h1 : z = 1
    · subst h1
      have hC := Lib.hid (HYES.out HW.out.symm)
      have hT := Lib.hid (rmT_yes hC.out)
      go_wp2_with fail
      refine (implFirst_any _ _ ps zs _ (hrW.later hb1) (huW.later hb1)).mono ?_
      rintro e w3 ⟨v3, rfl, ho3, hb3⟩
      have c3 := c1 ▸ hb3.cell (p := ⟨w.heap.size, 0, none⟩) (Nat.lt_of_lt_of_le hsz0 hb1.size)
      have hb13 := hb1.trans (hb3.mono hb1.size)
      have hB3 := hb0.trans (hb13.mono hb0.size)
      go_wp2_with fail
      refine (joinedTexts_any _ _ ps (readL ps zs) _ (hrW.later hb13) ho3.rdc hb HIN.out (readL_len ps zs)).mono ?_
      rintro e w4 ⟨rfl, hb4⟩
      go_wp2
      go_ret2
      exact ⟨by rw [hT.out, hC.out]; rfl, hB3.trans (hb4.mono hB3.size)⟩
    · have hC : Hid (rmC ps zs = false) := Lib.hid (rmC_no2 (by rw [← HW.out]; exact h1))
      have hne : (z != 1) = true := by rw [bne_iff_ne]; exact h1
      go_wp2
      go_ret2
      exact ⟨by rw [rmT_no hC.out, hC.out]; rfl, hB1⟩
end Go.Proofs.Ytpogpehbkgjiaaa
