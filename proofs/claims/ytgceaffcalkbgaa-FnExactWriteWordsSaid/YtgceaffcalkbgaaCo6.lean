/- Chapter 4: ReadWords of both sides, whatever comes. -/
import Derived.Test.YtgceaffcalkbgaaCo5
import Derived.Deep.AppendLies
namespace Go.Proofs.Ytgceaffcalkbgaa
open Go.RowKit
set_option linter.unusedSimpArgs false
set_option linter.unusedVariables false

set_option maxRecDepth 100000 in
set_option maxHeartbeats 1000000 in
theorem specRead_any (v1 v2 : Value) (L : List (List Int)) (ds : List Int) (w : World) (h1 : RdJ w v1 L) (h2 : RdC w v2 ds) :
    Calls Try.prog 38 #[v1, v2] w fun e w' => ∃ v, e = .returned (.tuple #[v, .bool (rdB L ds)]) ∧ OwnI w' w.heap.size w'.heap.size v (rdL L ds) ∧ Below w.heap.size w w' := by
  cases hc : codB L with
  | false =>
    obtain ⟨a1, c1, rfl, hlc⟩ := h1.len
    obtain ⟨a2, c2, e2, hc2⟩ := h2.2
    subst e2
    have hf : Hid (rdB L ds = false) := Lib.hid (by simp [rdB, hc])
    have H1 := Lib.hid h1
    clear h1 h2
    go_enter Try.func38, Try.ntmps38
    go_wp2_with fail
    refine (cmCode_any _ L _ H1.out).mono ?_
    rintro e w1 ⟨rfl, hb1⟩
    rw [hc]
    go_wp2
    go_ret2
    exact ⟨_, by rw [hf.out]; rfl, by rw [rdL_no hf.out]; exact (Own.nil _ _).iv, hb1⟩
  | true =>
    by_cases h180 : ds.length ≤ 180
    · cases ha : allIn ds 0 59 with
      | true => exact specReadYes v1 v2 L ds w h1 h2 hc h180 ha
      | false =>
        obtain ⟨a1, c1, rfl, hlc⟩ := h1.len
        obtain ⟨a2, c2, e2, hc2⟩ := h2.2
        subst e2
        have hf : Hid (rdB L ds = false) := Lib.hid (by simp [rdB, ha])
        have H1 := Lib.hid h1
        have H2 := Lib.hid h2
        have hl : (ds.length : Int) ≤ 180 := by omega
        clear h1 h2 h180
        go_enter Try.func38, Try.ntmps38
        go_wp2_with fail
        refine (cmCode_any _ L _ H1.out).mono ?_
        rintro e w1 ⟨rfl, hb1⟩
        rw [hc]
        go_wp2_with fail
        refine (l1All_any _ ds _ _ _ (H2.out.rd.later hb1)).mono ?_
        rintro e w2 ⟨rfl, rfl⟩
        rw [ha]
        go_wp2
        go_ret2
        exact ⟨_, by rw [hf.out]; rfl, by rw [rdL_no hf.out]; exact (Own.nil _ _).iv, hb1⟩
    · have hm := h2.rd.max
      unfold maxLen at hm
      obtain ⟨a1, c1, rfl, hlc⟩ := h1.len
      obtain ⟨a2, c2, e2, hc2⟩ := h2.2
      subst e2
      have hf : Hid (rdB L ds = false) := Lib.hid (by simp [rdB]; intro _ h; omega)
      have H1 := Lib.hid h1
      have hl : 180 < (ds.length : Int) := by omega
      clear h1 h2 h180
      go_enter Try.func38, Try.ntmps38
      go_wp2_with fail
      refine (cmCode_any _ L _ H1.out).mono ?_
      rintro e w1 ⟨rfl, hb1⟩
      rw [hc]
      go_wp2
      go_ret2
      exact ⟨_, by rw [hf.out]; rfl, by rw [rdL_no hf.out]; exact (Own.nil _ _).iv, hb1⟩

theorem read1_any (u dv : Value) (zs ds : List Int) (D b k : Nat) (w : World) (hD : w.cell? ⟨D, 0, none⟩ = some dv) (hb : w.cell? ⟨b, 0, none⟩ = some (.int .i64 k)) (hk : k < ds.length) (h1 : RdC w u zs) (h2 : RdC w dv ds) (hm : ds.length ≤ 180) :
    Calls Try.prog 87 #[u, .pointer (some ⟨D, 0, none⟩), .pointer (some ⟨b, 0, none⟩)] w fun e w' => e = .returned (.bool (begsB zs (ds.drop k))) ∧ Below w.heap.size w w' := by
  obtain ⟨a2, c2, e2, hc2⟩ := h2.2
  subst e2
  obtain ⟨g, off, rfl⟩ := h2.some_ (by omega)
  have hdr := h2.drop k hk
  have hne : ¬ c2 = k := by omega
  have H1 := Lib.hid h1
  have HD := Lib.hid hdr
  obtain ⟨n, hn⟩ : ∃ n, n = ds.length := ⟨_, rfl⟩
  rw [← hn] at hk hc2 hm hD HD
  clear h1 h2 hdr hn
  go_enter Try.func87, Try.ntmps87
  go_wp2_with fail
  refine (begins_any _ _ zs (ds.drop k) _ H1.out HD.out).mono ?_
  rintro e w1 ⟨rfl, hb1⟩
  go_wp2
  go_ret
  exact ⟨rfl, hb1⟩

set_option maxHeartbeats 400000 in
theorem idxWord_any (v dv : Value) (L : List (List Int)) (ds : List Int) (D b k : Nat) (w : World) (hr : RdJ w v L) (hDs : D < w.heap.size) (hbs : b < w.heap.size) (hD : w.cell? ⟨D, 0, none⟩ = some dv) (hb : w.cell? ⟨b, 0, none⟩ = some (.int .i64 k)) (hk : k < ds.length) (h2 : RdC w dv ds) (hm : ds.length ≤ 180) :
    Calls Try.prog 86 #[v, .func (.func 87) #[] #[.pointer (some ⟨D, 0, none⟩), .pointer (some ⟨b, 0, none⟩)]] w fun e w' => e = .returned (.int .i64 (fwZ L (ds.drop k))) ∧ Below w.heap.size w w' := by
  have hmx := hr.max
  obtain ⟨a, cap, rfl, -⟩ := hr.len
  obtain ⟨n, hn⟩ : ∃ n, n = L.length := ⟨_, rfl⟩
  have HN := Lib.hid hn
  have HR := Lib.hid hr
  have HD := Lib.hid hD
  have HB := Lib.hid hb
  have H2 := Lib.hid h2
  have HK := Lib.hid hk
  have HM := Lib.hid hm
  rw [← hn] at hmx ⊢
  clear hn hr hD hb h2 hk hm
  go_enter Try.func86, Try.ntmps86
  go_wp2
  go_loopw [8] (fun i wr => ∃ j : Nat, j ≤ n ∧ i = .int .i64 j ∧ Below w.heap.size w wr ∧ Hid (∀ m, m < j → begsB (rowAt L m) (ds.drop k) = false)) (fun i wr => n - (intOf i).toNat)
  case atStart => exact ⟨0, Nat.zero_le _, rfl, Below.refl _ _, Lib.hid fun j hj => by omega⟩
  case round =>
    obtain ⟨j, hj, rfl, hbl, hall⟩ := hrel
    by_cases hlt : j < n
    · obtain ⟨g, off, u, e3, hg, hc0, hru⟩ := (HR.out.below hbl (Nat.le_refl _)).at_ rfl j (by rw [← HN.out]; exact hlt)
      subst e3
      have hDc : wr.cell? ⟨D, 0, none⟩ = some dv := by rw [hbl.cell (p := ⟨D, 0, none⟩) hDs]; exact HD.out
      have hbc : wr.cell? ⟨b, 0, none⟩ = some (.int .i64 k) := by rw [hbl.cell (p := ⟨b, 0, none⟩) hbs]; exact HB.out
      have HDC := Lib.hid hDc
      have HBC := Lib.hid hbc
      have HRU := Lib.hid hru
      clear hDc hbc hru
      cases hs : begsB (rowAt L j) (ds.drop k) with
      | true =>
        have hf := Lib.hid (fwZ_first (by rw [← HN.out]; exact hlt) hs hall.out)
        go_wp2_with fail
        refine (read1_any u dv (rowAt L j) ds D b k _ HDC.out HBC.out HK.out HRU.out (H2.out.later hbl) HM.out).mono ?_
        rintro e w1 ⟨rfl, hb'⟩
        rw [hs]
        go_wp2
        go_ret
        exact ⟨ret_int hf.out.symm, hbl.trans (hb'.mono hbl.size)⟩
      | false =>
        have hall' : Hid (∀ m, m < j + 1 → begsB (rowAt L m) (ds.drop k) = false) := Lib.hid fun m hm => by
          by_cases e : m = j
          · subst e; exact hs
          · exact hall.out m (by omega)
        go_wp2_with fail
        refine (read1_any u dv (rowAt L j) ds D b k _ HDC.out HBC.out HK.out HRU.out (H2.out.later hbl) HM.out).mono ?_
        rintro e w1 ⟨rfl, hb'⟩
        rw [hs]
        go_wp2
        go_roundw
        case rel => exact ⟨j + 1, by omega, by go_num, hbl.trans (hb'.mono hbl.size), hall'⟩
        case measure => simp [intOf]; omega
    · have hf := Lib.hid (fwZ_nowhere (L := L) (ds := ds.drop k) fun m hm => hall.out m (by rw [← HN.out] at hm; omega))
      go_wp2
      go_ret
      exact ⟨ret_int hf.out.symm, hbl⟩

set_option maxRecDepth 100000 in
set_option maxHeartbeats 2000000 in
theorem implReadYes (v1 v2 : Value) (L : List (List Int)) (ds : List Int) (w : World) (h1 : RdJ w v1 L) (h2 : RdC w v2 ds) (hc : codB L = true) (h180 : ds.length ≤ 180) (ha : allIn ds 0 59 = true) :
    Calls Try.prog 37 #[v1, v2] w fun e w' => ∃ v, e = .returned (.tuple #[v, .bool (rdB L ds)]) ∧ OwnI w' w.heap.size w'.heap.size v (rdL L ds) ∧ Below w.heap.size w w' := by
  have hmf : ∀ (fn : Fn) (first cap : Array Value) (w : World), (Instr.makeFunc fn first cap).run Try.prog w = .ok (.func fn first cap) w := fun _ _ _ _ => rfl
  obtain ⟨a1, c1, rfl, hlc⟩ := h1.len
  obtain ⟨a2, c2, e2, hc2⟩ := h2.2
  subst e2
  have hbW := (Below.refl w.heap.size w).alloc (Nat.le_refl _) (.cells #[.slice a2 ds.length c2] 23)
  have hxW : (w.alloc (.cells #[.slice a2 ds.length c2] 23)).cell? ⟨w.heap.size, 0, none⟩ = some (.slice a2 ds.length c2) := by simp [go_sem]
  have hsW : w.heap.size < (w.alloc (.cells #[.slice a2 ds.length c2] 23)).heap.size := by simp
  have H1 := Lib.hid h1
  have H2 := Lib.hid h2
  have HC := Lib.hid hc
  have HA := Lib.hid ha
  have H180 := Lib.hid h180
  have hc20 := codB_len hc
  have hl60 : (ds.length : Int) ≤ 180 := by omega
  obtain ⟨nL, hnL⟩ : ∃ n, n = L.length := ⟨_, rfl⟩
  have HNL := Lib.hid hnL
  obtain ⟨nd, hnd⟩ : ∃ n, n = ds.length := ⟨_, rfl⟩
  have HND := Lib.hid hnd
  rw [← hnL] at hc20 hlc ⊢
  rw [← hnd] at hbW hxW hsW hc2 hl60 ⊢
  clear h1 h2 h180 hnL hnd
  go_enter Try.func37, Try.ntmps37
  go_wp2_with fail
  generalize w.alloc (.cells #[.slice a2 nd c2] 23) = W at *
  refine (isCode_any _ L _ (by rw [HNL.out]; exact H1.out.later hbW)).mono ?_
  rintro e w1 ⟨rfl, hb1⟩
  rw [hc]
  clear hc
  have x1 := hxW ▸ hb1.cell (p := ⟨w.heap.size, 0, none⟩) hsW
  go_wp2_with fail
  refine (areDigits_any _ ds _ (by have := (H2.out.later hbW).later hb1; rw [← HND.out] at this; exact this.rd)).mono ?_
  rintro e w2 ⟨rfl, rfl⟩
  rw [ha]
  clear ha
  have hbw := hbW.trans (hb1.mono hbW.size)
  have s1 := hb1.size
  go_wp2
  go_loopg [6, 7] nd (fun f u p wr => ∃ (acc : List Int) (b k : Nat), p = .pointer (some ⟨b, 0, none⟩) ∧ W.heap.size ≤ b ∧ b < wr.heap.size ∧ wr.cell? ⟨b, 0, none⟩ = some (.int .i64 k) ∧ wr.frozen? ⟨b, 0, none⟩ = false ∧ k ≤ nd ∧ nd - k ≤ f ∧ Own wr W.heap.size u acc ∧ u.ownBlock ≠ some b ∧ Below W.heap.size W wr ∧ acc.length ≤ k ∧ Hid (Rdg L ds acc (ds.drop k)))
  case atStart => exact ⟨[], w1.heap.size, 0, rfl, by omega, by simp, new_cell _ _ _, by simp [go_sem], Nat.zero_le _, by omega, Own.nil _ _, by simp [Value.ownBlock], hb1.alloc s1 _, Nat.zero_le _, Lib.hid (by simpa using Rdg.start L ds)⟩
  case round =>
    obtain ⟨acc, b, k, rfl, hWb, hbs, hbc, hbf, hk, hfu, hown, hne, hbl, hak, hg⟩ := hrel
    have xr := hxW ▸ hbl.cell (p := ⟨w.heap.size, 0, none⟩) hsW
    have hbwr := hbW.trans (hbl.mono hbW.size)
    have swr := hbl.size
    have hdl : (ds.drop k).length = nd - k := by rw [List.length_drop, ← HND.out]
    by_cases hlt : k < nd
    · cases hf : fwI L (ds.drop k) with
      | none =>
        have hz := fwZ_none hf
        have hno := Lib.hid (rdB_none (hg.out.fail (by rw [hdl]; omega) hf))
        go_wp2_with fail
        refine (idxWord_any _ (.slice a2 nd c2) L ds w.heap.size b k _ (by have := H1.out.later hbwr; rw [← HNL.out] at this; exact this) (by omega) hbs xr hbc (by rw [← HND.out]; exact hlt) (by have := H2.out.later hbwr; rw [← HND.out] at this; exact this) H180.out).mono ?_
        rintro e w3 ⟨rfl, hb3⟩
        rw [hz]
        have hb4 := hbl.trans (hb3.mono swr)
        go_wp2
        go_ret2
        exact ⟨_, by rw [hno.out]; rfl, by rw [rdL_no hno.out]; exact (Own.nil _ _).iv, hbW.trans (hb4.mono hbW.size)⟩
      | some i =>
        have hz := fwZ_some hf
        obtain ⟨hi, hbg⟩ := fwI_some hf
        have hst := hg.out.step HC.out (by rw [hdl]; omega) hf
        rw [List.drop_drop] at hst
        have hwl := codB_word HC.out hi
        have hle := (begsB_iff.1 hbg).1
        rw [hdl] at hle
        have hi' : i < nL := by rw [HNL.out]; exact hi
        obtain ⟨g, off, x, e3, hg3, hx0, hrx⟩ := H1.out.at_ rfl i hi
        subst e3
        obtain ⟨xa, xc, rfl⟩ := hrx.rd.len
        obtain ⟨m, hm⟩ : ∃ m, m = (rowAt L i).length := ⟨_, rfl⟩
        rw [← hm] at hle hx0 hwl hst
        have hm1 : 1 ≤ m := hwl.1
        have hm6 : m ≤ 6 := hwl.2.1
        have HST := Lib.hid hst
        clear hwl hrx hm hst hf hbg
        go_wp2_with fail
        refine (idxWord_any _ (.slice a2 nd c2) L ds w.heap.size b k _ (by have := H1.out.later hbwr; rw [← HNL.out] at this; exact this) (by omega) hbs xr hbc (by rw [← HND.out]; exact hlt) (by have := H2.out.later hbwr; rw [← HND.out] at this; exact this) H180.out).mono ?_
        rintro e w3 ⟨rfl, hb3⟩
        rw [hz]
        have hb4 := hbl.trans (hb3.mono swr)
        have s3 := hb3.size
        have hown3 := hown.later hb3
        have hbc3 := hbc ▸ hb3.cell (p := ⟨b, 0, none⟩) hbs
        have hbf3 := hbf ▸ hb3.frozen (p := ⟨b, 0, none⟩) hbs
        have hq : ¬ ((i : Int) < 0) := by omega
        have hacc : acc.length ≤ 1099511627776 := by omega
        have HB4 : Hid (∀ o w4 (v' : Value), (w3.alloc o).grownBy w4 u6.ownBlock → (v'.ownBlock = u6.ownBlock ∨ v'.ownBlock = some (w3.alloc o).heap.size) → Below W.heap.size W w4 ∧ w4.cell? ⟨g, off + i, none⟩ = some (.slice xa m xc) ∧ w4.cell? ⟨b, 0, none⟩ = some (.int .i64 k) ∧ w4.frozen? ⟨b, 0, none⟩ = false ∧ b < w4.heap.size ∧ v'.ownBlock ≠ some b) := Lib.hid fun o w4 v' hg4 hat => by
          have ha := hb4.alloc hb4.size o
          have h4 := ha.grown hg4 ha.size (fun k hk => (hown.lt k hk).1)
          have hbw3 : b < (w3.alloc o).heap.size := by simp; omega
          have hbA := (Below.refl w3.heap.size w3).alloc (Nat.le_refl _) o
          refine ⟨h4, by rw [(hbW.trans (h4.mono hbW.size)).cell (p := ⟨g, off + i, none⟩) hg3]; exact hx0, ?_, ?_, by have := hg4.size; omega, ?_⟩
          · rw [hg4.cell_far ⟨b, 0, none⟩ hbw3 (Ne.symm hne), hbA.cell (p := ⟨b, 0, none⟩) (by show b < w3.heap.size; omega)]; exact hbc3
          · rw [hg4.frozen_far ⟨b, 0, none⟩ hbw3 (Ne.symm hne), hbA.frozen (p := ⟨b, 0, none⟩) (by show b < w3.heap.size; omega)]; exact hbf3
          · rcases hat with h | h
            · rw [h]; exact hne
            · rw [h]; intro e; injection e with e; simp at e; omega
        go_wp2_with (at_builtin; refine append_int_at rfl _ _ rfl W.heap.size _ acc i w3.heap.size rfl rfl (hown3.alloc _) (new_cell _ _ _) hacc (by simp; omega) ?_; intro v' w4 hown4 hgrow4 hat4; obtain ⟨hb5, hx4, hbc4, hbf4, hbs4, hne4⟩ := HB4.out _ _ _ hgrow4 hat4)
        go_region
        have x5 : (w4.setCell ⟨b, 0, none⟩ (.int .i64 ((k : Int) + (m : Int)))).drew.cell? ⟨b, 0, none⟩ = some (.int .i64 ((k : Int) + (m : Int))) := by simpa [go_sem] using setc_same (v := .int .i64 ((k : Int) + (m : Int))) hbc4
        have o5 := (hown4.setFar (b := b) (o := 0) (x := .int .i64 ((k : Int) + (m : Int))) hne4).drewN 1
        have b5 := (hb5.setCell (p := ⟨b, 0, none⟩) hWb (.int .i64 ((k : Int) + (m : Int)))).drew
        have d1 : ∀ x : World, x.drewN 1 = x.drew := fun _ => rfl
        rw [d1] at o5
        generalize (w4.setCell ⟨b, 0, none⟩ (.int .i64 ((k : Int) + (m : Int)))).drew = w5 at *
        have s5 := b5.size
        have l5 : v'.ownBlock ≠ some w5.heap.size := fun e => by have := (o5.lt _ e).2; omega
        have O5 := Lib.hid o5
        clear hown4 hgrow4 hat4 hbc4 hbf4 o5
        go_wp2
        go_roundg (nd - (k + m))
        case measure => omega
        case rel => exact ⟨acc ++ [(i : Int)], w5.heap.size, k + m, rfl, s5, by simp, by rw [new_cell, Int.natCast_add], by simp [go_sem], by omega, Nat.le_refl _, O5.out.alloc _, l5, b5.alloc s5 _, by simp; omega, HST⟩
    · have hkn : k = nd := by omega
      have hrd' := hg.out.end_ (by rw [hdl]; omega)
      have hyes := Lib.hid (rdB_yes HC.out H180.out HA.out hrd')
      have hval := Lib.hid (rdL_yes hyes.out hrd')
      have hlt2 : ¬ ((k : Int) < (nd : Int)) := by omega
      clear hrd' hlt
      go_wp2
      go_ret2
      exact ⟨_, by rw [hyes.out]; rfl, by rw [hval.out]; exact hown.iv.wide hbW.size (Nat.le_refl _), hbwr⟩

set_option maxRecDepth 100000 in
set_option maxHeartbeats 1000000 in
theorem implRead_any (v1 v2 : Value) (L : List (List Int)) (ds : List Int) (w : World) (h1 : RdJ w v1 L) (h2 : RdC w v2 ds) :
    Calls Try.prog 37 #[v1, v2] w fun e w' => ∃ v, e = .returned (.tuple #[v, .bool (rdB L ds)]) ∧ OwnI w' w.heap.size w'.heap.size v (rdL L ds) ∧ Below w.heap.size w w' := by
  cases hc : codB L with
  | false =>
    obtain ⟨a1, c1, rfl, hlc⟩ := h1.len
    obtain ⟨a2, c2, e2, hc2⟩ := h2.2
    subst e2
    have hbW := (Below.refl w.heap.size w).alloc (Nat.le_refl _) (.cells #[.slice a2 ds.length c2] 23)
    have hf : Hid (rdB L ds = false) := Lib.hid (by simp [rdB, hc])
    have H1 := Lib.hid h1
    clear h1 h2
    go_enter Try.func37, Try.ntmps37
    go_wp2_with fail
    generalize w.alloc (.cells #[.slice a2 ds.length c2] 23) = W at *
    refine (isCode_any _ L _ (H1.out.later hbW)).mono ?_
    rintro e w1 ⟨rfl, hb1⟩
    rw [hc]
    have hb := hbW.trans (hb1.mono hbW.size)
    go_wp2
    go_ret2
    exact ⟨_, by rw [hf.out]; rfl, by rw [rdL_no hf.out]; exact (Own.nil _ _).iv, hb⟩
  | true =>
    by_cases h180 : ds.length ≤ 180
    · cases ha : allIn ds 0 59 with
      | true => exact implReadYes v1 v2 L ds w h1 h2 hc h180 ha
      | false =>
        obtain ⟨a1, c1, rfl, hlc⟩ := h1.len
        obtain ⟨a2, c2, e2, hc2⟩ := h2.2
        subst e2
        have hbW := (Below.refl w.heap.size w).alloc (Nat.le_refl _) (.cells #[.slice a2 ds.length c2] 23)
        have hxW : (w.alloc (.cells #[.slice a2 ds.length c2] 23)).cell? ⟨w.heap.size, 0, none⟩ = some (.slice a2 ds.length c2) := by simp [go_sem]
        have hsW : w.heap.size < (w.alloc (.cells #[.slice a2 ds.length c2] 23)).heap.size := by simp
        have hf : Hid (rdB L ds = false) := Lib.hid (by simp [rdB, ha])
        have H1 := Lib.hid h1
        have H2 := Lib.hid h2
        have hl : (ds.length : Int) ≤ 180 := by omega
        clear h1 h2 h180
        go_enter Try.func37, Try.ntmps37
        go_wp2_with fail
        generalize w.alloc (.cells #[.slice a2 ds.length c2] 23) = W at *
        refine (isCode_any _ L _ (H1.out.later hbW)).mono ?_
        rintro e w1 ⟨rfl, hb1⟩
        rw [hc]
        have x1 := hxW ▸ hb1.cell (p := ⟨w.heap.size, 0, none⟩) hsW
        go_wp2_with fail
        refine (areDigits_any _ ds _ ((H2.out.later hbW).later hb1).rd).mono ?_
        rintro e w2 ⟨rfl, rfl⟩
        rw [ha]
        have hb := hbW.trans (hb1.mono hbW.size)
        go_wp2
        go_ret2
        exact ⟨_, by rw [hf.out]; rfl, by rw [rdL_no hf.out]; exact (Own.nil _ _).iv, hb⟩
    · have hm := h2.rd.max
      unfold maxLen at hm
      obtain ⟨a1, c1, rfl, hlc⟩ := h1.len
      obtain ⟨a2, c2, e2, hc2⟩ := h2.2
      subst e2
      have hbW := (Below.refl w.heap.size w).alloc (Nat.le_refl _) (.cells #[.slice a2 ds.length c2] 23)
      have hxW : (w.alloc (.cells #[.slice a2 ds.length c2] 23)).cell? ⟨w.heap.size, 0, none⟩ = some (.slice a2 ds.length c2) := by simp [go_sem]
      have hsW : w.heap.size < (w.alloc (.cells #[.slice a2 ds.length c2] 23)).heap.size := by simp
      have hf : Hid (rdB L ds = false) := Lib.hid (by simp [rdB]; intro _ h; omega)
      have H1 := Lib.hid h1
      have hl : 180 < (ds.length : Int) := by omega
      clear h1 h2 h180
      go_enter Try.func37, Try.ntmps37
      go_wp2_with fail
      generalize w.alloc (.cells #[.slice a2 ds.length c2] 23) = W at *
      refine (isCode_any _ L _ (H1.out.later hbW)).mono ?_
      rintro e w1 ⟨rfl, hb1⟩
      rw [hc]
      have x1 := hxW ▸ hb1.cell (p := ⟨w.heap.size, 0, none⟩) hsW
      have hb := hbW.trans (hb1.mono hbW.size)
      go_wp2
      go_ret2
      exact ⟨_, by rw [hf.out]; rfl, by rw [rdL_no hf.out]; exact (Own.nil _ _).iv, hb⟩
end Go.Proofs.Ytgceaffcalkbgaa
