/- Chapter 2: a phrase is dropped. -/
import Derived.Test.YtkknmjioihnpkaaBkX3
import Derived.Test.YtkknmjioihnpkaaBkX4
import Derived.Test.YtkknmjioihnpkaaBk9
namespace Go.Proofs.Ytkknmjioihnpkaa
open Go.RowKit
set_option linter.unusedSimpArgs false
set_option linter.unusedVariables false

theorem concat2_any (h : Nat) (v1 v2 : Value) (p1 p2 : List Ph) (w : World) (hh : h < w.heap.size) (h1 : w.cell? ⟨h, 0, none⟩ = some v1) (h2 : w.cell? ⟨h, 1, none⟩ = some v2)
    (r1 : RdPs w v1 p1) (r2 : RdPs w v2 p2) (l1 : p1.length ≤ 100) (l2 : p2.length ≤ 100) :
    Calls Try.prog 76 #[.slice (some ⟨h, 0, none⟩) 2 2] w fun e w' => ∃ v', e = .returned v' ∧ RowG w w' w.heap.size v' (p1 ++ p2) := by
  have := concat_any h 2 (fun j => if j = 0 then v1 else v2) (fun j => if j = 0 then p1 else p2) w (by omega) hh (fun j hj => by
    match j, hj with
    | 0, _ => exact ⟨h1, r1, l1⟩
    | 1, _ => exact ⟨h2, r2, l2⟩)
  have e : catTo (fun j => if j = 0 then p1 else p2) 2 = p1 ++ p2 := by simp [catTo, List.range_succ]
  rw [e] at this
  exact this
theorem RdPs.drop {w : World} {g off n cap : Nat} {ps : List Ph} (h : RdPs w (.slice (some ⟨g, off, none⟩) n cap) ps) (hn : n = ps.length) (k : Nat) (hk : k ≤ n) (hp : 0 < n) : RdPs w (.slice (some ⟨g, off + k * 2, none⟩) (n - k) (cap - k)) (ps.drop k) := by
  rcases h with ⟨rfl, -⟩ | ⟨g', off', cap', hv, hg, hl, hm, hc⟩
  · simp at hn; omega
  · simp only [Value.slice.injEq, Option.some.injEq, Addr.mk.injEq, and_true] at hv
    obtain ⟨⟨rfl, rfl⟩, hn', rfl⟩ := hv
    refine .inr ⟨g, off + k * 2, cap - k, by rw [List.length_drop, hn], hg, by rw [List.length_drop]; omega, by omega, fun i hi => ?_⟩
    rw [List.length_drop] at hi
    have := hc (k + i) (by omega)
    rw [phAt_drop, show off + k * 2 + i * 2 = off + (k + i) * 2 by omega]
    exact this
theorem RdPs.some_ {w : World} {a : Option Addr} {n cap : Nat} {ps : List Ph} (h : RdPs w (.slice a n cap) ps) (hn : 0 < ps.length) : ∃ g off, a = some ⟨g, off, none⟩ := by
  rcases h with ⟨rfl, -⟩ | ⟨g', off', cap', hv, -⟩
  · simp at hn
  · simp only [Value.slice.injEq] at hv
    exact ⟨g', off', hv.1⟩
theorem RdPs.none_ (w : World) (a : Addr) : RdPs w (.slice (some a) 0 0) [] := .inl ⟨rfl, _, _, rfl, fun _ => rfl⟩

def dropL (ps : List Ph) (s : ByteArray) : List Ph := ps.take (txtIdx ps s) ++ ps.drop (txtIdx ps s + 1)
def dropC (ps : List Ph) (s : ByteArray) : Bool := findC ps s && bookB (dropL ps s)
theorem dropC_no {ps : List Ph} {s : ByteArray} (h : findC ps s = false) : dropC ps s = false := by simp [dropC, h]
theorem dropC_yes {ps : List Ph} {s : ByteArray} (h : findC ps s = true) : dropC ps s = bookB (dropL ps s) := by simp [dropC, h]
theorem findC_info {ps : List Ph} {s : ByteArray} (h : findC ps s = true) : bookB ps = true ∧ txtIdx ps s < ps.length ∧ txtPos ps s = (txtIdx ps s : Int) := by
  simp only [findC, Bool.and_eq_true, decide_eq_true_eq] at h
  obtain ⟨h1, h2⟩ := h
  unfold txtPos at h2 ⊢
  split at h2
  next hlt => rw [if_pos hlt]; exact ⟨h1, hlt, rfl⟩
  next => omega
theorem dropL_small {ps : List Ph} {s : ByteArray} (hz : SmallPs ps) : SmallPs (dropL ps s) := by
  refine ⟨?_, fun i hi => ?_⟩
  · have := hz.1
    simp [dropL]
    omega
  · simp only [dropL, List.length_append, List.length_take, List.length_drop] at hi
    unfold dropL
    rw [phAt_append]
    split
    next h => rw [List.length_take] at h; rw [phAt_take (by omega)]; exact hz.2 _ (by omega)
    next h => rw [List.length_take] at h ⊢; rw [phAt_drop]; exact hz.2 _ (by omega)


set_option maxRecDepth 100000 in
set_option maxHeartbeats 1600000 in
theorem implDrop_any (v : Value) (ps : List Ph) (s : ByteArray) (w : World) (hs : s.size ≤ maxLen) (hz : SmallPs ps) (hr : RdPs w v ps) :
    Calls Try.prog 50 #[.agg #[v], .string s] w (CopyPost (dropC ps s) (dropL ps s) w) := by
  have hss := hs
  unfold maxLen at hss
  obtain ⟨a, cap, rfl, hcap⟩ := hr.len
  have hbW := ((Below.refl w.heap.size w).alloc (Nat.le_refl _) (.cells #[.slice a ps.length cap] 25)).alloc (by simp) (.cells #[.slice none 0 0] 25)
  have hrW := hr.later hbW
  have hcW : ((w.alloc (.cells #[.slice a ps.length cap] 25)).alloc (.cells #[.slice none 0 0] 25)).cell? ⟨w.heap.size, 0, none⟩ = some (.slice a ps.length cap) := by simp [go_sem]
  have hcR : ((w.alloc (.cells #[.slice a ps.length cap] 25)).alloc (.cells #[.slice none 0 0] 25)).cell? ⟨w.heap.size + 1, 0, none⟩ = some (.slice none 0 0) := by simp [go_sem]
  have hfR : ((w.alloc (.cells #[.slice a ps.length cap] 25)).alloc (.cells #[.slice none 0 0] 25)).frozen? ⟨w.heap.size + 1, 0, none⟩ = false := by simp [go_sem]
  have hsW : ((w.alloc (.cells #[.slice a ps.length cap] 25)).alloc (.cells #[.slice none 0 0] 25)).heap.size = w.heap.size + 1 + 1 := by simp
  go_enter Try.func50, Try.ntmps50
  go_wp2_with fail
  generalize (w.alloc (.cells #[.slice a ps.length cap] 25)).alloc (.cells #[.slice none 0 0] 25) = W at *
  refine (implFind_any _ ps s _ hs hrW).mono ?_
  rintro e w1 ⟨rfl, hb1⟩
  have c1 := hcW ▸ hb1.cell (p := ⟨w.heap.size, 0, none⟩) (by show w.heap.size < W.heap.size; omega)
  have r1 := hcR ▸ hb1.cell (p := ⟨w.heap.size + 1, 0, none⟩) (by show w.heap.size + 1 < W.heap.size; omega)
  have f1 := hfR ▸ hb1.frozen (p := ⟨w.heap.size + 1, 0, none⟩) (by show w.heap.size + 1 < W.heap.size; omega)
  have hs1 : w.heap.size + 1 < w1.heap.size := by have := hb1.size; omega
  have hB1 := hbW.trans (hb1.mono hbW.size)
  clear hcW hcR hfR
  cases hfc : findC ps s with
  | false =>
    have HF := Lib.hid (dropC_no hfc)
    go_wp2
    refine bodyPost_ret (v := .tuple #[.agg #[.slice none 0 0], .bool false]) (by simp [results, Try.results50, go_sem, r1, f1, hs1]) rfl ⟨.slice none 0 0, by rw [HF.out], by rw [okPs_no HF.out]; exact OwnPs.nil _ _, ?_⟩
    exact hB1.setCell (p := ⟨w.heap.size + 1, 0, none⟩) (by show w.heap.size ≤ w.heap.size + 1; omega) _
  | true =>
    obtain ⟨hbk, hix, hps⟩ := findC_info hfc
    have HF := Lib.hid (dropC_yes hfc)
    have hn40 := (bookB_len hbk).2
    have hSD := Lib.hid (dropL_small (s := s) hz)
    obtain ⟨i, hi⟩ : ∃ i, i = txtIdx ps s := ⟨_, rfl⟩
    obtain ⟨n, hn⟩ : ∃ n, n = ps.length := ⟨_, rfl⟩
    obtain ⟨I1, hI1⟩ : ∃ I1, I1 = i + 1 := ⟨_, rfl⟩
    have HD : Hid (dropL ps s = ps.take i ++ ps.drop I1) := Lib.hid (by rw [hI1, hi]; rfl)
    have hok : okI true (txtPos ps s) = (i : Int) := by rw [okI_yes rfl, hps, hi]
    have hps' : txtPos ps s = (i : Int) := by rw [hps, hi]
    rw [← hi, ← hn] at hix
    rw [← hn] at hcap hn40 c1
    simp only [hok]
    have hr1 := hrW.later hb1
    obtain ⟨g, off, rfl⟩ := hr1.some_ (by omega)
    have hw1 : IntKind.i64.wrap ((i : Int) + 1) = (I1 : Int) := by rw [IntWalk.i64_in _ (by omega)]; omega
    have hi0 : ¬ ((i : Int) < 0) := by omega
    have hi00 : (0 : Int) ≤ (i : Int) := by omega
    have hic0 : (i : Int) ≤ (cap : Int) := by omega
    have hI00 : (0 : Int) ≤ (I1 : Int) := by omega
    have hIn0 : (I1 : Int) ≤ (n : Int) := by omega
    have hnc0 : (n : Int) ≤ (cap : Int) := by omega
    have hIc : i ≤ cap := by omega
    have hIn : I1 ≤ n := by omega
    have hIp : 0 < I1 := by omega
    have HRD : Hid (RdPs w1.drew (.slice (some ⟨g, off, none⟩) n cap) ps) := Lib.hid (by rw [hn]; exact hr1.later (Below.refl _ w1).drew)
    have HN := Lib.hid hn
    have HTS : Hid (SmallPs (ps.take i)) := Lib.hid (hz.take i)
    have R1 : Hid (RdPs w1.drew (.slice (some ⟨g, off, none⟩) i cap) (ps.take i)) := Lib.hid (HRD.out.take i (by omega))
    have hLD : Hid ((ps.take i).length ≤ 100 ∧ (ps.drop I1).length ≤ 100) := Lib.hid (by simp; omega)
    have hbD := (Below.refl w1.heap.size w1).drew
    have hBD := hB1.drew
    have y0 : w1.drew.cell? ⟨w.heap.size, 0, none⟩ = some (.slice (some ⟨g, off, none⟩) n cap) := by simpa [go_sem] using c1
    have y1 : w1.drew.cell? ⟨w.heap.size + 1, 0, none⟩ = some (.slice none 0 0) := by simpa [go_sem] using r1
    have y2 : w1.drew.frozen? ⟨w.heap.size + 1, 0, none⟩ = false := by simpa [go_sem] using f1
    have ysz : w.heap.size + 1 < w1.drew.heap.size := by simpa using hs1
    have K1 : Hid (∀ x : World, Below w1.drew.heap.size w1.drew x → x.cell? ⟨w.heap.size, 0, none⟩ = some (.slice (some ⟨g, off, none⟩) n cap) ∧ x.cell? ⟨w.heap.size + 1, 0, none⟩ = some (.slice none 0 0) ∧ x.frozen? ⟨w.heap.size + 1, 0, none⟩ = false ∧ w.heap.size + 1 < x.heap.size) := Lib.hid fun x h =>
      ⟨by rw [h.cell (p := ⟨w.heap.size, 0, none⟩) (by show w.heap.size < w1.drew.heap.size; omega)]; exact y0, by rw [h.cell (p := ⟨w.heap.size + 1, 0, none⟩) ysz]; exact y1, by rw [h.frozen (p := ⟨w.heap.size + 1, 0, none⟩) ysz]; exact y2, by have := h.size; omega⟩
    have K2 : Hid (∀ (x : World) (q : Value), Below w1.drew.heap.size w1.drew x → (x.setCell ⟨w.heap.size + 1, 0, none⟩ q).cell? ⟨w.heap.size, 0, none⟩ = some (.slice (some ⟨g, off, none⟩) n cap)) := Lib.hid fun x q h => by
      rw [setc_far (by omega)]
      exact (K1.out _ h).1
    clear hfc hi hn hps hz hr hrW hr1 hbk hI1 hok hps'
    by_cases hcc : cap = I1
    · subst hcc
      obtain rfl : n = cap := by omega
      have hDN : Hid (ps.drop n = []) := Lib.hid (by rw [HN.out]; exact List.drop_length)
      have RD : Hid (RdPs w1.drew (.slice (some ⟨g, off, none⟩) 0 0) (ps.drop n)) := Lib.hid (by rw [hDN.out]; exact RdPs.none_ _ _)
      have hbA := (Below.refl w1.drew.heap.size w1.drew).alloc (Nat.le_refl _) (.cells #[.slice (some ⟨g, off, none⟩) i n, .slice (some ⟨g, off, none⟩) 0 0] 23)
      have HCC : Hid (Calls Try.prog 76 #[.slice (some ⟨w1.drew.heap.size, 0, none⟩) 2 2] (w1.drew.alloc (.cells #[.slice (some ⟨g, off, none⟩) i n, .slice (some ⟨g, off, none⟩) 0 0] 23)) fun e w' => ∃ v', e = .returned v' ∧ RowG (w1.drew.alloc (.cells #[.slice (some ⟨g, off, none⟩) i n, .slice (some ⟨g, off, none⟩) 0 0] 23)) w' (w1.drew.alloc (.cells #[.slice (some ⟨g, off, none⟩) i n, .slice (some ⟨g, off, none⟩) 0 0] 23)).heap.size v' (ps.take i ++ ps.drop n)) := Lib.hid (concat2_any _ _ _ (ps.take i) (ps.drop n) _ (by simp) (by simp [go_sem]) (by simp [go_sem]) (R1.out.later hbA) (RD.out.later hbA) hLD.out.1 hLD.out.2)
      go_wp2_with fail
      go_region_held3 (fun w' => w'.cell? ⟨w.heap.size, 0, none⟩ = some (.slice (some ⟨g, off, none⟩) n n))
        (first | go_keep | exact (K1.out _ hb2).1 | exact (K1.out _ hb3).1 | exact K2.out _ _ hb3)
        (first | (go_at_call 76; refine HCC.out.mono ?_; rintro e w2 ⟨v2, rfl, hrow2⟩; have hb2 := hbA.trans (hrow2.below.mono hbA.size)) | (go_at_call 75; refine (bookOfCopies_any _ _ _ (HD.out ▸ hSD.out) hrow2.rd).mono ?_; rintro e w3 ⟨v3, rfl, ho3, hb3'⟩; have hb3 := hb2.trans (hb3'.mono hb2.size); obtain ⟨a3, cap3, rfl, -⟩ := ho3.rd.len; have k3 := K1.out _ hb3; have k4 := k3.2.1; have k5 := k3.2.2.1; have k6 := k3.2.2.2))
      have HO3 : Hid (OwnPs w3 (w.heap.size + 2) (.slice a3 (okPs (bookB (ps.take i ++ ps.drop n)) (ps.take i ++ ps.drop n)).length cap3) (okPs (bookB (ps.take i ++ ps.drop n)) (ps.take i ++ ps.drop n))) := Lib.hid (ho3.base (by have := hb2.size; omega))
      go_wp2
      refine bodyPost_ret (v := .tuple #[.agg #[.slice a3 (okPs (bookB (ps.take i ++ ps.drop n)) (ps.take i ++ ps.drop n)).length cap3], .bool (bookB (ps.take i ++ ps.drop n))]) (by simp [results, Try.results50, go_sem, k4, k5, k6]) rfl ⟨.slice a3 (okPs (bookB (ps.take i ++ ps.drop n)) (ps.take i ++ ps.drop n)).length cap3, by rw [HF.out, HD.out], ?_, ?_⟩
      · rw [HF.out, HD.out]; exact (HO3.out.setLow (b := w.heap.size + 1) (by omega)).base (by omega)
      · exact (hBD.trans (hb3.mono hBD.size)).setCell (p := ⟨w.heap.size + 1, 0, none⟩) (by show w.heap.size ≤ w.heap.size + 1; omega) _
    · have RD : Hid (RdPs w1.drew (.slice (some ⟨g, off + I1 * 2, none⟩) (n - I1) (cap - I1)) (ps.drop I1)) := Lib.hid (HRD.out.drop HN.out I1 hIn (by omega))
      have hbA := (Below.refl w1.drew.heap.size w1.drew).alloc (Nat.le_refl _) (.cells #[.slice (some ⟨g, off, none⟩) i cap, .slice (some ⟨g, off + I1 * 2, none⟩) (n - I1) (cap - I1)] 23)
      have HCC : Hid (Calls Try.prog 76 #[.slice (some ⟨w1.drew.heap.size, 0, none⟩) 2 2] (w1.drew.alloc (.cells #[.slice (some ⟨g, off, none⟩) i cap, .slice (some ⟨g, off + I1 * 2, none⟩) (n - I1) (cap - I1)] 23)) fun e w' => ∃ v', e = .returned v' ∧ RowG (w1.drew.alloc (.cells #[.slice (some ⟨g, off, none⟩) i cap, .slice (some ⟨g, off + I1 * 2, none⟩) (n - I1) (cap - I1)] 23)) w' (w1.drew.alloc (.cells #[.slice (some ⟨g, off, none⟩) i cap, .slice (some ⟨g, off + I1 * 2, none⟩) (n - I1) (cap - I1)] 23)).heap.size v' (ps.take i ++ ps.drop I1)) := Lib.hid (concat2_any _ _ _ (ps.take i) (ps.drop I1) _ (by simp) (by simp [go_sem]) (by simp [go_sem]) (R1.out.later hbA) (RD.out.later hbA) hLD.out.1 hLD.out.2)
      go_wp2_with fail
      go_region_held3 (fun w' => w'.cell? ⟨w.heap.size, 0, none⟩ = some (.slice (some ⟨g, off, none⟩) n cap))
        (first | go_keep | exact (K1.out _ hb2).1 | exact (K1.out _ hb3).1 | exact K2.out _ _ hb3)
        (first | (go_at_call 76; refine HCC.out.mono ?_; rintro e w2 ⟨v2, rfl, hrow2⟩; have hb2 := hbA.trans (hrow2.below.mono hbA.size)) | (go_at_call 75; refine (bookOfCopies_any _ _ _ (HD.out ▸ hSD.out) hrow2.rd).mono ?_; rintro e w3 ⟨v3, rfl, ho3, hb3'⟩; have hb3 := hb2.trans (hb3'.mono hb2.size); obtain ⟨a3, cap3, rfl, -⟩ := ho3.rd.len; have k3 := K1.out _ hb3; have k4 := k3.2.1; have k5 := k3.2.2.1; have k6 := k3.2.2.2))
      have HO3 : Hid (OwnPs w3 (w.heap.size + 2) (.slice a3 (okPs (bookB (ps.take i ++ ps.drop I1)) (ps.take i ++ ps.drop I1)).length cap3) (okPs (bookB (ps.take i ++ ps.drop I1)) (ps.take i ++ ps.drop I1))) := Lib.hid (ho3.base (by have := hb2.size; omega))
      go_wp2
      refine bodyPost_ret (v := .tuple #[.agg #[.slice a3 (okPs (bookB (ps.take i ++ ps.drop I1)) (ps.take i ++ ps.drop I1)).length cap3], .bool (bookB (ps.take i ++ ps.drop I1))]) (by simp [results, Try.results50, go_sem, k4, k5, k6]) rfl ⟨.slice a3 (okPs (bookB (ps.take i ++ ps.drop I1)) (ps.take i ++ ps.drop I1)).length cap3, by rw [HF.out, HD.out], ?_, ?_⟩
      · rw [HF.out, HD.out]; exact (HO3.out.setLow (b := w.heap.size + 1) (by omega)).base (by omega)
      · exact (hBD.trans (hb3.mono hBD.size)).setCell (p := ⟨w.heap.size + 1, 0, none⟩) (by show w.heap.size ≤ w.heap.size + 1; omega) _
end Go.Proofs.Ytkknmjioihnpkaa
