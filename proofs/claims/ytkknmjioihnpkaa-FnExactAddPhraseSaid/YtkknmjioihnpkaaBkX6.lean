/- Chapter 2: a phrase is dropped, by the specification. -/
import Derived.Test.YtkknmjioihnpkaaBkX5
namespace Go.Proofs.Ytkknmjioihnpkaa
open Go.RowKit
set_option linter.unusedSimpArgs false
set_option linter.unusedVariables false

set_option maxRecDepth 100000 in
set_option maxHeartbeats 1600000 in
theorem specDrop_any (v : Value) (ps : List Ph) (s : ByteArray) (w : World) (hs : s.size ≤ maxLen) (hz : SmallPs ps) (hr : RdPs w v ps) :
    Calls Try.prog 49 #[.agg #[v], .string s] w (CopyPost (dropC ps s) (dropL ps s) w) := by
  have hss := hs
  unfold maxLen at hss
  obtain ⟨a, cap, rfl, hcap⟩ := hr.len
  have hbW := ((Below.refl w.heap.size w).alloc (Nat.le_refl _) (.cells #[.slice a ps.length cap] 25)).alloc (by simp) (.cells #[.slice none 0 0] 25)
  have hrW := hr.later hbW
  have hcW : ((w.alloc (.cells #[.slice a ps.length cap] 25)).alloc (.cells #[.slice none 0 0] 25)).cell? ⟨w.heap.size, 0, none⟩ = some (.slice a ps.length cap) := by simp [go_sem]
  have hcR : ((w.alloc (.cells #[.slice a ps.length cap] 25)).alloc (.cells #[.slice none 0 0] 25)).cell? ⟨w.heap.size + 1, 0, none⟩ = some (.slice none 0 0) := by simp [go_sem]
  have hfR : ((w.alloc (.cells #[.slice a ps.length cap] 25)).alloc (.cells #[.slice none 0 0] 25)).frozen? ⟨w.heap.size + 1, 0, none⟩ = false := by simp [go_sem]
  have hsW : ((w.alloc (.cells #[.slice a ps.length cap] 25)).alloc (.cells #[.slice none 0 0] 25)).heap.size = w.heap.size + 1 + 1 := by simp
  go_enter Try.func49, Try.ntmps49
  go_wp2_with fail
  generalize (w.alloc (.cells #[.slice a ps.length cap] 25)).alloc (.cells #[.slice none 0 0] 25) = W at *
  refine (bkFind_any _ ps s _ hrW).mono ?_
  rintro e w0 ⟨rfl, hb0⟩
  have c0 := hcW ▸ hb0.cell (p := ⟨w.heap.size, 0, none⟩) (by show w.heap.size < W.heap.size; omega)
  go_wp2_with fail
  refine (bkGood_any _ ps _ (hrW.later hb0)).mono ?_
  rintro e w1 ⟨rfl, hb1'⟩
  have hb1 := hb0.trans (hb1'.mono hb0.size)
  clear c0 hb1' hb0
  have c1 := hcW ▸ hb1.cell (p := ⟨w.heap.size, 0, none⟩) (by show w.heap.size < W.heap.size; omega)
  have r1 := hcR ▸ hb1.cell (p := ⟨w.heap.size + 1, 0, none⟩) (by show w.heap.size + 1 < W.heap.size; omega)
  have f1 := hfR ▸ hb1.frozen (p := ⟨w.heap.size + 1, 0, none⟩) (by show w.heap.size + 1 < W.heap.size; omega)
  have hs1 : w.heap.size + 1 < w1.heap.size := by have := hb1.size; omega
  have hB1 := hbW.trans (hb1.mono hbW.size)
  clear hcW hcR hfR
  cases hfc : findC ps s with
  | false =>
    have HF := Lib.hid (dropC_no hfc)
    cases hbk : bookB ps with
    | false =>
      clear hfc
      go_wp2
      refine bodyPost_ret (v := .tuple #[.agg #[.slice none 0 0], .bool false]) (by simp [results, Try.results49, go_sem, r1, f1, hs1]) rfl ⟨.slice none 0 0, by rw [HF.out], by rw [okPs_no HF.out]; exact OwnPs.nil _ _, ?_⟩
      exact hB1.setCell (p := ⟨w.heap.size + 1, 0, none⟩) (by show w.heap.size ≤ w.heap.size + 1; omega) _
    | true =>
      have hneg : txtPos ps s < 0 := by simpa [findC, hbk] using hfc
      clear hfc hbk
      go_wp2
      refine bodyPost_ret (v := .tuple #[.agg #[.slice none 0 0], .bool false]) (by simp [results, Try.results49, go_sem, r1, f1, hs1]) rfl ⟨.slice none 0 0, by rw [HF.out], by rw [okPs_no HF.out]; exact OwnPs.nil _ _, ?_⟩
      exact hB1.setCell (p := ⟨w.heap.size + 1, 0, none⟩) (by show w.heap.size ≤ w.heap.size + 1; omega) _
  | true =>
    obtain ⟨hbk, hix, hps⟩ := findC_info hfc
    have HF := Lib.hid (dropC_yes hfc)
    have hn40 := (bookB_len hbk).2
    have hSD := Lib.hid (dropL_small (s := s) hz)
    obtain ⟨i, hi⟩ : ∃ i, i = txtIdx ps s := ⟨_, rfl⟩
    obtain ⟨n, hn⟩ : ∃ n, n = ps.length := ⟨_, rfl⟩
    obtain ⟨I1, hI1⟩ : ∃ I1, I1 = i + 1 := ⟨_, rfl⟩
    have HD : Hid (dropL ps s = ps.take i ++ ps.drop I1) := Lib.hid (by rw [hI1, hi]; rfl)
    have hok : okI true (txtPos ps s) = (i : Int) := by rw [okI_yes rfl, hps, hi]
    have hps' : txtPos ps s = (i : Int) := by rw [hps, hi]
    rw [← hi, ← hn] at hix
    rw [← hn] at hcap hn40 c1
    simp only [hps', hbk]
    have hr1 := hrW.later hb1
    obtain ⟨g, off, rfl⟩ := hr1.some_ (by omega)
    have hw1 : IntKind.i64.wrap ((i : Int) + 1) = (I1 : Int) := by rw [IntWalk.i64_in _ (by omega)]; omega
    have hi0 : ¬ ((i : Int) < 0) := by omega
    have hi00 : (0 : Int) ≤ (i : Int) := by omega
    have hic0 : (i : Int) ≤ (cap : Int) := by omega
    have hI00 : (0 : Int) ≤ (I1 : Int) := by omega
    have hIn0 : (I1 : Int) ≤ (n : Int) := by omega
    have hnc0 : (n : Int) ≤ (cap : Int) := by omega
    have hIc : i ≤ cap := by omega
    have hIn : I1 ≤ n := by omega
    have hIp : 0 < I1 := by omega
    have HRD : Hid (RdPs w1.drew (.slice (some ⟨g, off, none⟩) n cap) ps) := Lib.hid (by rw [hn]; exact hr1.later (Below.refl _ w1).drew)
    have HN := Lib.hid hn
    have HTS : Hid (SmallPs (ps.take i)) := Lib.hid (hz.take i)
    have R1 : Hid (RdPs w1.drew (.slice (some ⟨g, off, none⟩) i cap) (ps.take i)) := Lib.hid (HRD.out.take i (by omega))
    have hLD : Hid ((ps.take i).length ≤ 100 ∧ (ps.drop I1).length ≤ 100) := Lib.hid (by simp; omega)
    have hbD := (Below.refl w1.heap.size w1).drew
    have hBD := hB1.drew
    have y0 : w1.drew.cell? ⟨w.heap.size, 0, none⟩ = some (.slice (some ⟨g, off, none⟩) n cap) := by simpa [go_sem] using c1
    have y1 : w1.drew.cell? ⟨w.heap.size + 1, 0, none⟩ = some (.slice none 0 0) := by simpa [go_sem] using r1
    have y2 : w1.drew.frozen? ⟨w.heap.size + 1, 0, none⟩ = false := by simpa [go_sem] using f1
    have ysz : w.heap.size + 1 < w1.drew.heap.size := by simpa using hs1
    have K1 : Hid (∀ x : World, Below w1.drew.heap.size w1.drew x → x.cell? ⟨w.heap.size, 0, none⟩ = some (.slice (some ⟨g, off, none⟩) n cap) ∧ x.cell? ⟨w.heap.size + 1, 0, none⟩ = some (.slice none 0 0) ∧ x.frozen? ⟨w.heap.size + 1, 0, none⟩ = false ∧ w.heap.size + 1 < x.heap.size) := Lib.hid fun x h =>
      ⟨by rw [h.cell (p := ⟨w.heap.size, 0, none⟩) (by show w.heap.size < w1.drew.heap.size; omega)]; exact y0, by rw [h.cell (p := ⟨w.heap.size + 1, 0, none⟩) ysz]; exact y1, by rw [h.frozen (p := ⟨w.heap.size + 1, 0, none⟩) ysz]; exact y2, by have := h.size; omega⟩
    have K2 : Hid (∀ (x : World) (q : Value), Below w1.drew.heap.size w1.drew x → (x.setCell ⟨w.heap.size + 1, 0, none⟩ q).cell? ⟨w.heap.size, 0, none⟩ = some (.slice (some ⟨g, off, none⟩) n cap)) := Lib.hid fun x q h => by
      rw [setc_far (by omega)]
      exact (K1.out _ h).1
    clear hfc hi hn hps hz hr hrW hr1 hbk hI1 hok hps'
    by_cases hcc : cap = I1
    · subst hcc
      obtain rfl : n = cap := by omega
      have hDN : Hid (ps.drop n = []) := Lib.hid (by rw [HN.out]; exact List.drop_length)
      have RD : Hid (RdPs w1.drew (.slice (some ⟨g, off, none⟩) 0 0) (ps.drop n)) := Lib.hid (by rw [hDN.out]; exact RdPs.none_ _ _)
      have HSM : Hid (SmallPs (ps.take i ++ ps.drop n)) := Lib.hid (HD.out ▸ hSD.out)
      have HOW : Hid (Calls Try.prog 74 #[.slice (some ⟨g, off, none⟩) i n] w1.drew fun e w' => ∃ v', e = .returned v' ∧ OwnPs w' w1.drew.heap.size v' (ps.take i) ∧ Below w1.drew.heap.size w1.drew w') := Lib.hid (bkOwn_any _ _ _ HTS.out R1.out)
      have HIF : Hid (∀ (u : Value) (x : World), RdPs x u (ps.take i ++ ps.drop n) → Calls Try.prog 73 #[u] x (CopyPost (bookB (ps.take i ++ ps.drop n)) (ps.take i ++ ps.drop n) x)) := Lib.hid fun u x h => bkIf_any _ _ _ HSM.out h
      have HLA : Hid ((ps.take i).length + (ps.drop n).length ≤ 4194304) := Lib.hid (by have := hLD.out; omega)
      go_wp2_with fail
      go_region_held3 (fun w' => w'.cell? ⟨w.heap.size, 0, none⟩ = some (.slice (some ⟨g, off, none⟩) n n))
        (first | go_keep | exact (K1.out _ hb2).1 | exact (K1.out _ hrow.below).1 | exact (K1.out _ hb3).1 | exact K2.out _ _ hb3)
        (first | (go_at_call 74; refine HOW.out.mono ?_; rintro e w2 ⟨v2, rfl, ho2, hb2⟩; have hrw2 := ho2.rowG hb2 (Nat.le_refl _) hb2.size) | (go_at_call 73; refine (HIF.out _ _ hrow.rd).mono ?_; rintro e w3 ⟨v3, rfl, ho3, hb3'⟩; have hb3 := hrow.below.trans (hb3'.mono hrow.below.size); obtain ⟨a3, cap3, rfl, -⟩ := ho3.rd.len; have k3 := K1.out _ hb3; have k4 := k3.2.1; have k5 := k3.2.2.1; have k6 := k3.2.2.2) | (refine step_append_row (by rfl) _ _ (by rfl) w1.drew.heap.size _ (ps.take i) (ps.drop n) _ (by rfl) (by rfl) hrw2 RD.out HLA.out ?_; intro v4 w4 hrow hg4))
      have HO3 : Hid (OwnPs w3 (w.heap.size + 2) (.slice a3 (okPs (bookB (ps.take i ++ ps.drop n)) (ps.take i ++ ps.drop n)).length cap3) (okPs (bookB (ps.take i ++ ps.drop n)) (ps.take i ++ ps.drop n))) := Lib.hid (ho3.base (by have := hrow.below.size; omega))
      go_wp2
      refine bodyPost_ret (v := .tuple #[.agg #[.slice a3 (okPs (bookB (ps.take i ++ ps.drop n)) (ps.take i ++ ps.drop n)).length cap3], .bool (bookB (ps.take i ++ ps.drop n))]) (by simp [results, Try.results49, go_sem, k4, k5, k6]) rfl ⟨.slice a3 (okPs (bookB (ps.take i ++ ps.drop n)) (ps.take i ++ ps.drop n)).length cap3, by rw [HF.out, HD.out], ?_, ?_⟩
      · rw [HF.out, HD.out]; exact (HO3.out.setLow (b := w.heap.size + 1) (by omega)).base (by omega)
      · exact (hBD.trans (hb3.mono hBD.size)).setCell (p := ⟨w.heap.size + 1, 0, none⟩) (by show w.heap.size ≤ w.heap.size + 1; omega) _
    · have RD : Hid (RdPs w1.drew (.slice (some ⟨g, off + I1 * 2, none⟩) (n - I1) (cap - I1)) (ps.drop I1)) := Lib.hid (HRD.out.drop HN.out I1 hIn (by omega))
      have HSM : Hid (SmallPs (ps.take i ++ ps.drop I1)) := Lib.hid (HD.out ▸ hSD.out)
      have HOW : Hid (Calls Try.prog 74 #[.slice (some ⟨g, off, none⟩) i cap] w1.drew fun e w' => ∃ v', e = .returned v' ∧ OwnPs w' w1.drew.heap.size v' (ps.take i) ∧ Below w1.drew.heap.size w1.drew w') := Lib.hid (bkOwn_any _ _ _ HTS.out R1.out)
      have HIF : Hid (∀ (u : Value) (x : World), RdPs x u (ps.take i ++ ps.drop I1) → Calls Try.prog 73 #[u] x (CopyPost (bookB (ps.take i ++ ps.drop I1)) (ps.take i ++ ps.drop I1) x)) := Lib.hid fun u x h => bkIf_any _ _ _ HSM.out h
      have HLA : Hid ((ps.take i).length + (ps.drop I1).length ≤ 4194304) := Lib.hid (by have := hLD.out; omega)
      go_wp2_with fail
      go_region_held3 (fun w' => w'.cell? ⟨w.heap.size, 0, none⟩ = some (.slice (some ⟨g, off, none⟩) n cap))
        (first | go_keep | exact (K1.out _ hb2).1 | exact (K1.out _ hrow.below).1 | exact (K1.out _ hb3).1 | exact K2.out _ _ hb3)
        (first | (go_at_call 74; refine HOW.out.mono ?_; rintro e w2 ⟨v2, rfl, ho2, hb2⟩; have hrw2 := ho2.rowG hb2 (Nat.le_refl _) hb2.size) | (go_at_call 73; refine (HIF.out _ _ hrow.rd).mono ?_; rintro e w3 ⟨v3, rfl, ho3, hb3'⟩; have hb3 := hrow.below.trans (hb3'.mono hrow.below.size); obtain ⟨a3, cap3, rfl, -⟩ := ho3.rd.len; have k3 := K1.out _ hb3; have k4 := k3.2.1; have k5 := k3.2.2.1; have k6 := k3.2.2.2) | (refine step_append_row (by rfl) _ _ (by rfl) w1.drew.heap.size _ (ps.take i) (ps.drop I1) _ (by rfl) (by rfl) hrw2 RD.out HLA.out ?_; intro v4 w4 hrow hg4))
      have HO3 : Hid (OwnPs w3 (w.heap.size + 2) (.slice a3 (okPs (bookB (ps.take i ++ ps.drop I1)) (ps.take i ++ ps.drop I1)).length cap3) (okPs (bookB (ps.take i ++ ps.drop I1)) (ps.take i ++ ps.drop I1))) := Lib.hid (ho3.base (by have := hrow.below.size; omega))
      go_wp2
      refine bodyPost_ret (v := .tuple #[.agg #[.slice a3 (okPs (bookB (ps.take i ++ ps.drop I1)) (ps.take i ++ ps.drop I1)).length cap3], .bool (bookB (ps.take i ++ ps.drop I1))]) (by simp [results, Try.results49, go_sem, k4, k5, k6]) rfl ⟨.slice a3 (okPs (bookB (ps.take i ++ ps.drop I1)) (ps.take i ++ ps.drop I1)).length cap3, by rw [HF.out, HD.out], ?_, ?_⟩
      · rw [HF.out, HD.out]; exact (HO3.out.setLow (b := w.heap.size + 1) (by omega)).base (by omega)
      · exact (hBD.trans (hb3.mono hBD.size)).setCell (p := ⟨w.heap.size + 1, 0, none⟩) (by show w.heap.size ≤ w.heap.size + 1; omega) _
end Go.Proofs.Ytkknmjioihnpkaa
