/- Chapter 2: copies of phrases; slices.Grow, slices.Concat. -/
import Derived.Test.YtkknmjioihnpkaaBkX1
import Derived.Test.YtkknmjioihnpkaaShelf
import Derived.Lib.AppendZerosOnto
import Derived.Lib.AppendZeros
import Derived.Lib.SliceRun
namespace Go.Proofs.Ytkknmjioihnpkaa
open Go.RowKit
set_option linter.unusedSimpArgs false
set_option linter.unusedVariables false

theorem l1Own_any (v : Value) (zs : List Int) (w : World) (hz : zs.length ≤ 1099511627776) (hr : Rd w v zs) :
    Calls Try.prog 97 #[v] w fun e w' => ∃ v', e = .returned v' ∧ Own w' w.heap.size v' zs ∧ Below w.heap.size w w' := by
  have he := Own.empty w w.heap.size (Nat.le_refl _)
  have hb := (Below.refl w.heap.size w).alloc (Nat.le_refl _) (.cells #[] 3)
  have hr1 := hr.later hb
  obtain ⟨a, cap, hv⟩ := hr.len
  subst hv
  have HR := Lib.hid hr1
  have HE := Lib.hid he
  clear hr hr1 he
  go_enter Try.func97, Try.ntmps97
  go_wp2_with (at_builtin; refine append_ints rfl _ _ rfl w.heap.size _ [] zs _ rfl rfl HE.out HR.out (by simpa using hz) (by simp) ?_; intro v' w1 hown1 hgrow1)
  go_ret
  exact ⟨_, rfl, by simpa using hown1, hb.grown hgrow1 (by simp) (fun k hk => (HE.out.lt k hk).1)⟩

theorem clone_any (v : Value) (zs : List Int) (w : World) (hz : zs.length ≤ 1099511627776) (hr : Rd w v zs) :
    Calls Try.prog 98 #[v] w fun e w' => ∃ v', e = .returned v' ∧ Own w' w.heap.size v' zs ∧ Below w.heap.size w w' := by
  rcases hr with ⟨rfl, ad, cap, rfl, hn⟩ | ⟨g, off, cap, rfl, hg, hm, hc⟩
  · cases ad with
    | none =>
      refine (Try.slices_Clone_int_nil 0 cap w).mono ?_
      rintro e w' ⟨rfl, rfl⟩
      exact ⟨_, rfl, Own.nil _ _, Below.refl _ _⟩
    | some ad =>
      refine (Try.slices_Clone_int_zero ad cap w).mono ?_
      rintro e w' ⟨v', rfl, ho, -, hb⟩
      exact ⟨_, rfl, ho, hb⟩
  · refine (Try.slices_Clone_int g off zs.length cap zs w (Nat.le_refl _) (by omega) (fun j hj => by rw [hc j hj, List.getD_eq_getElem?_getD])).mono ?_
    rintro e w' ⟨v', rfl, ho, -, hb⟩
    rw [List.take_length] at ho
    exact ⟨_, rfl, ho, hb⟩

theorem SmallPs.take {ps : List Ph} (h : SmallPs ps) (k : Nat) : SmallPs (ps.take k) := by
  obtain ⟨h1, h2⟩ := h
  refine ⟨by simp; omega, fun i hi => ?_⟩
  rw [List.length_take] at hi
  rw [phAt_take (by omega)]
  exact h2 i (by omega)
theorem phAt_drop (ps : List Ph) (k i : Nat) : phAt (ps.drop k) i = phAt ps (k + i) := by simp [phAt]
theorem SmallPs.drop {ps : List Ph} (h : SmallPs ps) (k : Nat) : SmallPs (ps.drop k) := by
  obtain ⟨h1, h2⟩ := h
  refine ⟨by simp; omega, fun i hi => ?_⟩
  simp at hi
  rw [phAt_drop]
  exact h2 _ (by omega)

set_option maxRecDepth 100000 in
set_option maxHeartbeats 800000 in
theorem bkOwn_any (v : Value) (ps : List Ph) (w : World) (hz : SmallPs ps) (hr : RdPs w v ps) :
    Calls Try.prog 74 #[v] w fun e w' => ∃ v', e = .returned v' ∧ OwnPs w' w.heap.size v' ps ∧ Below w.heap.size w w' := by
  obtain ⟨a, cap, hv, -⟩ := hr.len
  obtain ⟨n, hn⟩ : ∃ n, ps.length = n := ⟨_, rfl⟩
  have HR : Hid (RdPs w v ps) := Lib.hid hr
  obtain ⟨hz3, hz4⟩ := hz
  have HZ := Lib.hid hz4
  clear hr hz4
  rw [hn] at hv hz3
  subst hv
  have HN := Lib.hid hn
  clear hn
  go_enter Try.func74, Try.ntmps74
  go_wp2
  go_loopw [3, 8] (fun u i wr => ∃ k : Nat, k ≤ n ∧ i = .int .i64 k ∧ OwnPs wr w.heap.size u (ps.take k) ∧ Below w.heap.size w wr) (fun u i wr => n - (intOf i).toNat)
  case atStart => exact ⟨0, Nat.zero_le _, rfl, OwnPs.nil _ _, Below.refl _ _⟩
  case round =>
    obtain ⟨k, hk, rfl, hown, hbel⟩ := hrel
    by_cases hlt : k < n
    · obtain ⟨g, off, uu, rfl, hg, hts, hc0, hc1, hru⟩ := (HR.out.below hbel (Nat.le_refl _)).at_ HN.out.symm k hlt
      have hzk := HZ.out k (by rw [HN.out]; exact hlt)
      obtain ⟨ua, uc, rfl⟩ := hru.rd.len
      have hsz := hbel.size
      have hbX := (Below.refl wr.heap.size wr).alloc (Nat.le_refl _) (.cells #[.string (phAt ps k).txt, .slice ua (phAt ps k).sig.length uc] 33)
      have hx0 : (wr.alloc (.cells #[.string (phAt ps k).txt, .slice ua (phAt ps k).sig.length uc] 33)).cell? ⟨wr.heap.size, 0, none⟩ = some (.string (phAt ps k).txt) := by simp [go_sem]
      have hx1 : (wr.alloc (.cells #[.string (phAt ps k).txt, .slice ua (phAt ps k).sig.length uc] 33)).cell? ⟨wr.heap.size, 1, none⟩ = some (.slice ua (phAt ps k).sig.length uc) := by simp [go_sem]
      have hsX : wr.heap.size < (wr.alloc (.cells #[.string (phAt ps k).txt, .slice ua (phAt ps k).sig.length uc] 33)).heap.size := by simp
      have hne : some wr.heap.size ≠ u3.ownBlock := fun e => by have := (hown.lt _ e.symm).2; omega
      have hnext := Lib.hid (take_snoc_ph (ps := ps) (i := k) (by rw [HN.out]; exact hlt))
      have hlk : (ps.take k).length ≤ 1048576 := by rw [List.length_take, HN.out]; omega
      go_wp2_with fail
      generalize wr.alloc (.cells #[.string (phAt ps k).txt, .slice ua (phAt ps k).sig.length uc] 33) = W at *
      have hbD := hbX.drew
      have hownD := Lib.hid (hown.later hbD)
      have hruD := Lib.hid (hru.later hbD)
      have hBD := hbel.trans (hbD.mono hsz)
      have y0 : W.drew.cell? ⟨wr.heap.size, 0, none⟩ = some (.string (phAt ps k).txt) := by simpa [go_sem] using hx0
      have y1 : W.drew.cell? ⟨wr.heap.size, 1, none⟩ = some (.slice ua (phAt ps k).sig.length uc) := by simpa [go_sem] using hx1
      have ysz : wr.heap.size < W.drew.heap.size := by simpa using hsX
      have K1 : Hid (∀ w1 : World, Below W.drew.heap.size W.drew w1 → w1.cell? ⟨wr.heap.size, 0, none⟩ = some (.string (phAt ps k).txt) ∧ w1.cell? ⟨wr.heap.size, 1, none⟩ = some (.slice ua (phAt ps k).sig.length uc)) := Lib.hid fun w1 h =>
        ⟨by rw [h.cell (p := ⟨wr.heap.size, 0, none⟩) ysz]; exact y0, by rw [h.cell (p := ⟨wr.heap.size, 1, none⟩) ysz]; exact y1⟩
      have K2 : Hid (∀ (w1 : World) (o : Obj) (w2 : World), Below W.drew.heap.size W.drew w1 → (w1.alloc o).grownBy w2 u3.ownBlock → w2.cell? ⟨wr.heap.size, 0, none⟩ = some (.string (phAt ps k).txt) ∧ w2.cell? ⟨wr.heap.size, 1, none⟩ = some (.slice ua (phAt ps k).sig.length uc)) := Lib.hid fun w1 o w2 h hg =>
        have ha := h.alloc h.size o
        have hl : wr.heap.size < (w1.alloc o).heap.size := by have := ha.size; omega
        ⟨by rw [hg.cell_far ⟨wr.heap.size, 0, none⟩ hl hne]; exact (K1.out _ ha).1, by rw [hg.cell_far ⟨wr.heap.size, 1, none⟩ hl hne]; exact (K1.out _ ha).2⟩
      go_region_held3 (fun w' => w'.cell? ⟨wr.heap.size, 0, none⟩ = some (.string (phAt ps k).txt) ∧ w'.cell? ⟨wr.heap.size, 1, none⟩ = some (.slice ua (phAt ps k).sig.length uc))
        (first | go_keep | exact K1.out _ hb1 | exact K2.out _ _ _ hb1 hg2)
        (first | (go_at_call 97; refine (l1Own_any _ (phAt ps k).sig _ (by have := hzk.2; omega) hruD.out.rd).mono ?_; rintro e w1 ⟨u1, rfl, ho1, hb1⟩; obtain ⟨ad, cp, rfl⟩ := ho1.rd.len) | (refine step_append_own (by rfl) _ _ (by rfl) w.heap.size _ (ps.take k) (phAt ps k) _ w1.heap.size (by rfl) (by rfl) hownD.out (hb1.alloc hb1.size _) (ho1.alloc _) hts hBD.size (by simp [go_sem]) (by simp [go_sem]) hlk ?_; intro v2 w2 ho2 hg2))
      go_wp2
      go_roundw
      case rel => exact ⟨k + 1, by omega, by go_num, by rw [hnext.out]; exact ho2, ((hBD.trans (hb1.mono hBD.size)).alloc (by have := hBD.size; have := hb1.size; omega) _).grown hg2 (by have := hBD.size; have := hb1.size; simp; omega) (fun j hj => (hown.lt j hj).1)⟩
      case measure => simp [intOf]; omega
    · have : k = n := by omega
      subst this
      go_wp2
      go_ret
      exact ⟨_, rfl, by rw [← List.take_length (l := ps), HN.out]; exact hown, hbel⟩
end Go.Proofs.Ytkknmjioihnpkaa
