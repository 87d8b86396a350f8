/- Chapter 2: a phrase is added. -/
import Derived.Test.YtkknmjioihnpkaaBkX6
import Derived.Test.YtkknmjioihnpkaaBk9
namespace Go.Proofs.Ytkknmjioihnpkaa
open Go.RowKit
set_option linter.unusedSimpArgs false
set_option linter.unusedVariables false

theorem concat3_any (h : Nat) (v1 v2 v3 : Value) (p1 p2 p3 : List Ph) (w : World) (hh : h < w.heap.size) (h1 : w.cell? ⟨h, 0, none⟩ = some v1) (h2 : w.cell? ⟨h, 1, none⟩ = some v2) (h3 : w.cell? ⟨h, 2, none⟩ = some v3)
    (r1 : RdPs w v1 p1) (r2 : RdPs w v2 p2) (r3 : RdPs w v3 p3) (l1 : p1.length ≤ 100) (l2 : p2.length ≤ 100) (l3 : p3.length ≤ 100) :
    Calls Try.prog 76 #[.slice (some ⟨h, 0, none⟩) 3 3] w fun e w' => ∃ v', e = .returned v' ∧ RowG w w' w.heap.size v' (p1 ++ p2 ++ p3) := by
  have := concat_any h 3 (fun j => if j = 0 then v1 else if j = 1 then v2 else v3) (fun j => if j = 0 then p1 else if j = 1 then p2 else p3) w (by omega) hh (fun j hj => by
    match j, hj with
    | 0, _ => exact ⟨h1, r1, l1⟩
    | 1, _ => exact ⟨h2, r2, l2⟩
    | 2, _ => exact ⟨h3, r3, l3⟩)
  have e : catTo (fun j => if j = 0 then p1 else if j = 1 then p2 else p3) 3 = p1 ++ p2 ++ p3 := by simp [catTo, List.range_succ]
  rw [e] at this
  exact this

def addIdx (ps : List Ph) (s : ByteArray) : Nat := ps.findIdx fun p => !lessB p.txt s
theorem addIdx_of {ps : List Ph} {s : ByteArray} {i : Nat} (hi : i ≤ ps.length) (h : ∀ m, m < i → lessB (phAt ps m).txt s = true) (h2 : i < ps.length → lessB (phAt ps i).txt s = false) : addIdx ps s = i := by
  refine Nat.le_antisymm (Nat.le_of_not_lt fun hlt => ?_) (Nat.le_of_not_lt fun hlt => ?_)
  · have hl : i < ps.length := Nat.lt_of_lt_of_le hlt List.findIdx_le_length
    have := List.not_of_lt_findIdx (p := fun p : Ph => !lessB p.txt s) hlt
    have h3 := h2 hl
    rw [phAt_eq hl] at h3
    simp [h3] at this
  · have hl : addIdx ps s < ps.length := by omega
    have := List.findIdx_getElem (p := fun p : Ph => !lessB p.txt s) (w := hl)
    have h3 := h _ hlt
    rw [phAt_eq hl] at h3
    have h4 : (!lessB ps[addIdx ps s].txt s) = true := this
    rw [h3] at h4
    cases h4
theorem addIdx_le (ps : List Ph) (s : ByteArray) : addIdx ps s ≤ ps.length := List.findIdx_le_length
def addL (ps : List Ph) (p : Ph) : List Ph := ps.take (addIdx ps p.txt) ++ [p] ++ ps.drop (addIdx ps p.txt)
def addC (ps : List Ph) (p : Ph) : Bool := bookB ps && bookB (addL ps p)
theorem addC_no {ps : List Ph} {p : Ph} (h : bookB ps = false) : addC ps p = false := by simp [addC, h]
theorem addC_yes {ps : List Ph} {p : Ph} (h : bookB ps = true) : addC ps p = bookB (addL ps p) := by simp [addC, h]
theorem addL_len (ps : List Ph) (p : Ph) : (addL ps p).length = ps.length + 1 := by
  have := addIdx_le ps p.txt
  simp [addL]
  omega
theorem addL_at (ps : List Ph) (p : Ph) : phAt (addL ps p) (addIdx ps p.txt) = p := by
  have := addIdx_le ps p.txt
  unfold addL
  rw [phAt_append, if_pos (by simp; omega), phAt_append, if_neg (by simp; omega)]
  rw [show addIdx ps p.txt - (ps.take (addIdx ps p.txt)).length = 0 by simp; omega]
  rfl
theorem addC_bad {ps : List Ph} {p : Ph} (h : phB p.txt p.sig = false) : addC ps p = false := by
  cases hb : bookB (addL ps p) with
  | false => simp [addC, hb]
  | true =>
    have hi : addIdx ps p.txt < (addL ps p).length := by have := addIdx_le ps p.txt; rw [addL_len]; omega
    have hg := bookB_at hb hi
    have h1 := goodAt_txt hg
    have h2 := goodAt_sig hg
    rw [addL_at] at h1 h2
    rw [phB_two h1 h2] at h
    cases h
theorem addL_small {ps : List Ph} {p : Ph} (hz : SmallPs ps) (hb : bookB ps = true) (hp : p.txt.size ≤ 1048576 ∧ p.sig.length ≤ 1048576) : SmallPs (addL ps p) := by
  have hn := (bookB_len hb).2
  refine ⟨by rw [addL_len]; omega, fun i hi => ?_⟩
  rw [addL_len] at hi
  have hle := addIdx_le ps p.txt
  unfold addL
  rw [phAt_append]
  by_cases h1 : i < (ps.take (addIdx ps p.txt) ++ [p]).length
  · rw [if_pos h1, phAt_append]
    by_cases h2 : i < (ps.take (addIdx ps p.txt)).length
    · rw [if_pos h2, phAt_take (by rw [List.length_take] at h2; omega)]
      exact hz.2 _ (by rw [List.length_take] at h2; omega)
    · rw [if_neg h2, show i - (ps.take (addIdx ps p.txt)).length = 0 by simp at h1 h2 ⊢; omega]
      exact hp
  · rw [if_neg h1, phAt_drop]
    refine hz.2 _ ?_
    simp at h1 ⊢
    omega
theorem RowG.base {w0 w : World} {B B' : Nat} {v : Value} {ps : List Ph} (h : RowG w0 w B v ps) (h1 : w0.heap.size ≤ B') (h2 : B' ≤ B) : RowG w0 w B' v ps := by
  obtain ⟨hB, hb, hw, us, ⟨r1, r2⟩, hin⟩ := h
  refine ⟨h1, hb, by omega, us, ⟨r1, ?_⟩, fun i hi => ⟨(hin i hi).1, (hin i hi).2.imp (fun h => h.base h2) id⟩⟩
  rcases r2 with r2 | ⟨g, cap, cur, hv, hg, r⟩
  · exact .inl r2
  · exact .inr ⟨g, cap, cur, hv, by omega, r⟩
theorem RdPs.single {w : World} {X : Nat} {p : Ph} {u : Value} (hX : X < w.heap.size) (h0 : w.cell? ⟨X, 0, none⟩ = some (.string p.txt)) (h1 : w.cell? ⟨X, 1, none⟩ = some u) (hs : p.txt.size ≤ maxLen) (hu : RdC w u p.sig) : RdPs w (.slice (some ⟨X, 0, none⟩) 1 1) [p] := by
  refine .inr ⟨X, 0, 1, rfl, hX, Nat.le_refl _, by decide, fun i hi => ?_⟩
  obtain rfl : i = 0 := by simpa using hi
  exact ⟨hs, h0, u, h1, hu⟩


set_option maxRecDepth 100000 in
set_option maxHeartbeats 1600000 in
theorem implAdd_any (v u0 : Value) (ps : List Ph) (s : ByteArray) (zs : List Int) (w : World) (hs : s.size ≤ 1048576) (hzl : zs.length ≤ 1048576) (hz : SmallPs ps) (hr : RdPs w v ps) (hru : RdC w u0 zs) :
    Calls Try.prog 45 #[.agg #[v], .agg #[.string s, u0]] w (CopyPost (addC ps ⟨s, zs⟩) (addL ps ⟨s, zs⟩) w) := by
  have hsm : s.size ≤ maxLen := by unfold maxLen; omega
  obtain ⟨a, cap, rfl, hcap⟩ := hr.len
  obtain ⟨ua, uc, rfl⟩ := hru.rd.len
  have hbW := (((Below.refl w.heap.size w).alloc (Nat.le_refl _) (.cells #[.slice a ps.length cap] 25)).alloc (by simp) (.cells #[.string s, .slice ua zs.length uc] 33)).alloc (by simp; omega) (.cells #[.slice none 0 0] 25)
  have hrW := hr.later hbW
  have huW := hru.later hbW
  have hsW : (((w.alloc (.cells #[.slice a ps.length cap] 25)).alloc (.cells #[.string s, .slice ua zs.length uc] 33)).alloc (.cells #[.slice none 0 0] 25)).heap.size = w.heap.size + 1 + 1 + 1 := by simp
  have hW0 : (((w.alloc (.cells #[.slice a ps.length cap] 25)).alloc (.cells #[.string s, .slice ua zs.length uc] 33)).alloc (.cells #[.slice none 0 0] 25)).cell? ⟨w.heap.size, 0, none⟩ = some (.slice a ps.length cap) := by simp [go_sem]
  have hW1 : (((w.alloc (.cells #[.slice a ps.length cap] 25)).alloc (.cells #[.string s, .slice ua zs.length uc] 33)).alloc (.cells #[.slice none 0 0] 25)).cell? ⟨w.heap.size + 1, 0, none⟩ = some (.string s) := by simp [go_sem]
  have hW2 : (((w.alloc (.cells #[.slice a ps.length cap] 25)).alloc (.cells #[.string s, .slice ua zs.length uc] 33)).alloc (.cells #[.slice none 0 0] 25)).cell? ⟨w.heap.size + 1, 1, none⟩ = some (.slice ua zs.length uc) := by simp [go_sem]
  have hW3 : (((w.alloc (.cells #[.slice a ps.length cap] 25)).alloc (.cells #[.string s, .slice ua zs.length uc] 33)).alloc (.cells #[.slice none 0 0] 25)).cell? ⟨w.heap.size + 1 + 1, 0, none⟩ = some (.slice none 0 0) := by simp [go_sem]
  have hW4 : (((w.alloc (.cells #[.slice a ps.length cap] 25)).alloc (.cells #[.string s, .slice ua zs.length uc] 33)).alloc (.cells #[.slice none 0 0] 25)).frozen? ⟨w.heap.size + 1 + 1, 0, none⟩ = false := by simp [go_sem]
  go_enter Try.func45, Try.ntmps45
  go_wp2_with fail
  generalize (((w.alloc (.cells #[.slice a ps.length cap] 25)).alloc (.cells #[.string s, .slice ua zs.length uc] 33)).alloc (.cells #[.slice none 0 0] 25)) = W at *
  have HK : Hid (∀ x : World, Below W.heap.size W x → x.cell? ⟨w.heap.size, 0, none⟩ = some (.slice a ps.length cap) ∧ x.cell? ⟨w.heap.size + 1, 0, none⟩ = some (.string s) ∧ x.cell? ⟨w.heap.size + 1, 1, none⟩ = some (.slice ua zs.length uc) ∧ x.cell? ⟨w.heap.size + 1 + 1, 0, none⟩ = some (.slice none 0 0) ∧ x.frozen? ⟨w.heap.size + 1 + 1, 0, none⟩ = false ∧ w.heap.size + 1 + 1 < x.heap.size) := Lib.hid fun x h =>
    ⟨by rw [h.cell (p := ⟨w.heap.size, 0, none⟩) (by show w.heap.size < W.heap.size; omega)]; exact hW0, by rw [h.cell (p := ⟨w.heap.size + 1, 0, none⟩) (by show w.heap.size + 1 < W.heap.size; omega)]; exact hW1, by rw [h.cell (p := ⟨w.heap.size + 1, 1, none⟩) (by show w.heap.size + 1 < W.heap.size; omega)]; exact hW2, by rw [h.cell (p := ⟨w.heap.size + 1 + 1, 0, none⟩) (by show w.heap.size + 1 + 1 < W.heap.size; omega)]; exact hW3, by rw [h.frozen (p := ⟨w.heap.size + 1 + 1, 0, none⟩) (by show w.heap.size + 1 + 1 < W.heap.size; omega)]; exact hW4, by have := h.size; omega⟩
  clear hW0 hW1 hW2 hW3 hW4
  refine (implIsBook_any _ ps _ hrW).mono ?_
  rintro e w1 ⟨rfl, hb1⟩
  obtain ⟨k0, k1, k2, k3, k4, k5⟩ := HK.out _ hb1
  cases hbk : bookB ps with
  | false =>
    have HF := Lib.hid (addC_no (p := ⟨s, zs⟩) hbk)
    go_wp2
    refine bodyPost_ret (v := .tuple #[.agg #[.slice none 0 0], .bool false]) (by simp [results, Try.results45, go_sem, k3, k4, k5]) rfl ⟨.slice none 0 0, by rw [HF.out], by rw [okPs_no HF.out]; exact OwnPs.nil _ _, ?_⟩
    exact (hbW.trans (hb1.mono hbW.size)).setCell (p := ⟨w.heap.size + 1 + 1, 0, none⟩) (by show w.heap.size ≤ w.heap.size + 1 + 1; omega) _
  | true =>
    have HBK := Lib.hid hbk
    go_wp2_with fail
    refine (isPhrase_any _ _ zs _ hsm (huW.later hb1).rd).mono ?_
    rintro e w2 ⟨rfl, hb2'⟩
    have hb2 := hb1.trans (hb2'.mono hb1.size)
    clear k0 k1 k2 k3 k4 k5
    obtain ⟨k0, k1, k2, k3, k4, k5⟩ := HK.out _ hb2
    cases hph : phB s zs with
    | false =>
      have HF := Lib.hid (addC_bad (ps := ps) (p := ⟨s, zs⟩) hph)
      go_wp2
      refine bodyPost_ret (v := .tuple #[.agg #[.slice none 0 0], .bool false]) (by simp [results, Try.results45, go_sem, k3, k4, k5]) rfl ⟨.slice none 0 0, by rw [HF.out], by rw [okPs_no HF.out]; exact OwnPs.nil _ _, ?_⟩
      exact (hbW.trans (hb2.mono hbW.size)).setCell (p := ⟨w.heap.size + 1 + 1, 0, none⟩) (by show w.heap.size ≤ w.heap.size + 1 + 1; omega) _
    | true =>
      have hn40 := (bookB_len HBK.out).2
      have hn1 := (bookB_len HBK.out).1
      have hin := bookB_incr HBK.out
      have HF := Lib.hid (addC_yes (p := ⟨s, zs⟩) HBK.out)
      have HSD := Lib.hid (addL_small (p := ⟨s, zs⟩) hz HBK.out ⟨hs, hzl⟩)
      go_wp2_with fail
      refine (placeOfText_any _ ps s _ hn40 hin (hrW.later hb2)).mono ?_
      rintro e w4 ⟨i, hpl, rfl, hb4'⟩
      have hb4 := hb2.trans (hb4'.mono hb2.size)
      have hix : addIdx ps s = i := addIdx_of hpl.1 hpl.2.1 (fun h => hpl.2.2 i (Nat.le_refl _) h)
      have hi1 := hpl.1
      have HD : Hid (addL ps ⟨s, zs⟩ = ps.take i ++ [⟨s, zs⟩] ++ ps.drop i) := Lib.hid (by rw [← hix]; rfl)
      have HSM : Hid (SmallPs (ps.take i ++ [⟨s, zs⟩] ++ ps.drop i)) := Lib.hid (by rw [← HD.out]; exact HSD.out)
      obtain ⟨n, hn⟩ : ∃ n, n = ps.length := ⟨_, rfl⟩
      have HN := Lib.hid hn
      obtain ⟨g, off, rfl⟩ := hrW.some_ (by omega)
      rw [← hn] at hcap hn40 hn1 hi1
      generalize foundB ps s i = fb
      clear hpl hix hin hn hbk hph k0 k1 k2 k3 k4 k5
      have hbD := hb4.drew
      have R0 : Hid (RdPs w4.drew (.slice (some ⟨g, off, none⟩) n cap) ps) := Lib.hid (by rw [HN.out]; exact hrW.later hbD)
      have R1 : Hid (RdPs w4.drew (.slice (some ⟨g, off, none⟩) i cap) (ps.take i)) := Lib.hid (R0.out.take i (by omega))
      have RU : Hid (RdC w4.drew (.slice ua zs.length uc) zs) := Lib.hid (huW.later hbD)
      have hLD : Hid ((ps.take i).length ≤ 40 ∧ (ps.drop i).length ≤ 40) := Lib.hid (by have := HN.out; simp; omega)
      have HTS : Hid (SmallPs (ps.take i)) := Lib.hid (hz.take i)
      have hi00 : (0 : Int) ≤ (i : Int) := by omega
      have hic0 : (i : Int) ≤ (cap : Int) := by omega
      have hin0 : (i : Int) ≤ (n : Int) := by omega
      have hnc0 : (n : Int) ≤ (cap : Int) := by omega
      have hic1 : i ≤ cap := by omega
      have K1 : Hid (∀ x : World, Below w4.drew.heap.size w4.drew x → x.cell? ⟨w.heap.size, 0, none⟩ = some (.slice (some ⟨g, off, none⟩) n cap) ∧ x.cell? ⟨w.heap.size + 1, 0, none⟩ = some (.string s) ∧ x.cell? ⟨w.heap.size + 1, 1, none⟩ = some (.slice ua zs.length uc) ∧ x.cell? ⟨w.heap.size + 1 + 1, 0, none⟩ = some (.slice none 0 0) ∧ x.frozen? ⟨w.heap.size + 1 + 1, 0, none⟩ = false ∧ w.heap.size + 1 + 1 < x.heap.size) := Lib.hid fun x h => by
        have := HK.out x (hbD.trans (h.mono hbD.size))
        rw [← HN.out] at this
        exact this
      have K0 := (K1.out _ (Below.refl _ _)).1
      have K00 := (K1.out _ (Below.refl _ _)).2.1
      have K01 := (K1.out _ (Below.refl _ _)).2.2.1
      simp [go_sem] at K0 K00 K01
      have hne1 : ¬ (w.heap.size + 1 + 1 = w.heap.size) := by omega
      have hne2 : ¬ (w.heap.size = w.heap.size + 1 + 1) := by omega
      have hDs : W.heap.size ≤ w4.drew.heap.size := hbD.size
      clear hrW huW hr hru
      by_cases hcc : cap = i
      · subst hcc
        obtain rfl : n = cap := by omega
        have hDN : Hid (ps.drop n = []) := Lib.hid (by rw [HN.out]; exact List.drop_length)
        have RD : Hid (RdPs w4.drew (.slice (some ⟨g, off, none⟩) 0 0) (ps.drop n)) := Lib.hid (by rw [hDN.out]; exact RdPs.none_ _ _)
        have HCC : Hid (∀ (x : World) (h X : Nat), Below w4.drew.heap.size w4.drew x → h < x.heap.size → X < x.heap.size → x.cell? ⟨h, 0, none⟩ = some (.slice (some ⟨g, off, none⟩) n n) → x.cell? ⟨h, 1, none⟩ = some (.slice (some ⟨X, 0, none⟩) 1 1) → x.cell? ⟨h, 2, none⟩ = some (.slice (some ⟨g, off, none⟩) 0 0) → x.cell? ⟨X, 0, none⟩ = some (.string s) → x.cell? ⟨X, 1, none⟩ = some (.slice ua zs.length uc) → Calls Try.prog 76 #[.slice (some ⟨h, 0, none⟩) 3 3] x fun e w' => ∃ v', e = .returned v' ∧ RowG x w' x.heap.size v' (ps.take n ++ [⟨s, zs⟩] ++ ps.drop n)) := Lib.hid fun x h X hb h1 h2 c0 c1 c2 c3 c4 => concat3_any _ _ _ _ (ps.take n) [⟨s, zs⟩] (ps.drop n) _ h1 c0 c1 c2 (R1.out.later hb) (RdPs.single (p := ⟨s, zs⟩) h2 c3 c4 hsm (RU.out.later hb)) (RD.out.later hb) (by have := hLD.out; omega) (by simp) (by have := hLD.out; omega)
        have hbA : ∀ o1 o2, Below w4.drew.heap.size w4.drew ((w4.drew.alloc o1).alloc o2) := fun o1 o2 => ((Below.refl _ _).alloc (Nat.le_refl _) _).alloc (by simp) _
        have HBC : Hid (∀ (v : Value) (x : World), RdPs x v (ps.take n ++ [⟨s, zs⟩] ++ ps.drop n) → Calls Try.prog 75 #[v] x (CopyPost (bookB (ps.take n ++ [⟨s, zs⟩] ++ ps.drop n)) (ps.take n ++ [⟨s, zs⟩] ++ ps.drop n) x)) := Lib.hid fun v x h => bookOfCopies_any _ _ _ HSM.out h
        have KS : Hid (∀ x : World, Below w4.drew.heap.size w4.drew x → x.cell? ⟨w.heap.size, 0, none⟩ = some (.slice (some ⟨g, off, none⟩) n n) ∧ x.cell? ⟨w.heap.size + 1, 0, none⟩ = some (.string s) ∧ x.cell? ⟨w.heap.size + 1, 1, none⟩ = some (.slice ua zs.length uc)) := Lib.hid fun x h => ⟨(K1.out x h).1, (K1.out x h).2.1, (K1.out x h).2.2.1⟩
        have KT : Hid (∀ (x : World) (q : Value), Below w4.drew.heap.size w4.drew x → (x.setCell ⟨w.heap.size + 1 + 1, 0, none⟩ q).cell? ⟨w.heap.size, 0, none⟩ = some (.slice (some ⟨g, off, none⟩) n n) ∧ (x.setCell ⟨w.heap.size + 1 + 1, 0, none⟩ q).cell? ⟨w.heap.size + 1, 0, none⟩ = some (.string s) ∧ (x.setCell ⟨w.heap.size + 1 + 1, 0, none⟩ q).cell? ⟨w.heap.size + 1, 1, none⟩ = some (.slice ua zs.length uc)) := Lib.hid fun x q h => by
          rw [setc_far (by omega), setc_far (by omega), setc_far (by omega)]
          exact KS.out x h
        go_wp2_with fail
        go_region_held3 (fun w' => w'.cell? ⟨w.heap.size, 0, none⟩ = some (.slice (some ⟨g, off, none⟩) n n) ∧ w'.cell? ⟨w.heap.size + 1, 0, none⟩ = some (.string s) ∧ w'.cell? ⟨w.heap.size + 1, 1, none⟩ = some (.slice ua zs.length uc))
          (first | go_keep | exact KS.out _ hb2 | exact KS.out _ hb3 | exact KT.out _ _ hb3 | (refine ⟨?_, ?_, ?_⟩ <;> first | exact (KT.out _ _ hb3).1 | exact (KT.out _ _ hb3).2.1 | exact (KT.out _ _ hb3).2.2) | (go_split_ands; refine ⟨?_, ?_, ?_⟩ <;> first | exact (KT.out _ _ hb3).1 | exact (KT.out _ _ hb3).2.1 | exact (KT.out _ _ hb3).2.2))
          (first | (go_at_call 76; refine (HCC.out _ _ w4.drew.heap.size (hbA _ _) (by simp) (by simp; omega) (by simp [go_sem]) (by simp [go_sem]) (by simp [go_sem]) (by simp [go_sem]) (by simp [go_sem])).mono ?_; rintro e w2 ⟨v2, rfl, hrow2⟩; have hb2 := (hbA _ _).trans (hrow2.below.mono (hbA _ _).size)) | (go_at_call 75; refine (HBC.out _ _ hrow2.rd).mono ?_; rintro e w3 ⟨v3, rfl, ho3, hb3'⟩; have hb3 := hb2.trans (hb3'.mono hb2.size); obtain ⟨a3, cap3, rfl, -⟩ := ho3.rd.len; have q3 := K1.out _ hb3; have q4 := q3.2.2.2.1; have q5 := q3.2.2.2.2.1; have q6 := q3.2.2.2.2.2))
        have HO3 : Hid (OwnPs w3 (w.heap.size + 3) (.slice a3 (okPs (bookB (ps.take n ++ [⟨s, zs⟩] ++ ps.drop n)) (ps.take n ++ [⟨s, zs⟩] ++ ps.drop n)).length cap3) (okPs (bookB (ps.take n ++ [⟨s, zs⟩] ++ ps.drop n)) (ps.take n ++ [⟨s, zs⟩] ++ ps.drop n))) := Lib.hid (ho3.base (by have := hb2.size; omega))
        go_wp2
        refine bodyPost_ret (v := .tuple #[.agg #[.slice a3 (okPs (bookB (ps.take n ++ [⟨s, zs⟩] ++ ps.drop n)) (ps.take n ++ [⟨s, zs⟩] ++ ps.drop n)).length cap3], .bool (bookB (ps.take n ++ [⟨s, zs⟩] ++ ps.drop n))]) (by simp [results, Try.results45, go_sem, q4, q5, q6]) rfl ⟨.slice a3 (okPs (bookB (ps.take n ++ [⟨s, zs⟩] ++ ps.drop n)) (ps.take n ++ [⟨s, zs⟩] ++ ps.drop n)).length cap3, by rw [HF.out, HD.out], ?_, ?_⟩
        · rw [HF.out, HD.out]; exact (HO3.out.setLow (b := w.heap.size + 1 + 1) (by omega)).base (by omega)
        · have hbb := hbD.trans (hb3.mono hbD.size)
          exact (hbW.trans (hbb.mono hbW.size)).setCell (p := ⟨w.heap.size + 1 + 1, 0, none⟩) (by show w.heap.size ≤ w.heap.size + 1 + 1; omega) _
      · have RD : Hid (RdPs w4.drew (.slice (some ⟨g, off + i * 2, none⟩) (n - i) (cap - i)) (ps.drop i)) := Lib.hid (R0.out.drop HN.out i (by omega) (by omega))
        have HCC : Hid (∀ (x : World) (h X : Nat), Below w4.drew.heap.size w4.drew x → h < x.heap.size → X < x.heap.size → x.cell? ⟨h, 0, none⟩ = some (.slice (some ⟨g, off, none⟩) i cap) → x.cell? ⟨h, 1, none⟩ = some (.slice (some ⟨X, 0, none⟩) 1 1) → x.cell? ⟨h, 2, none⟩ = some (.slice (some ⟨g, off + i * 2, none⟩) (n - i) (cap - i)) → x.cell? ⟨X, 0, none⟩ = some (.string s) → x.cell? ⟨X, 1, none⟩ = some (.slice ua zs.length uc) → Calls Try.prog 76 #[.slice (some ⟨h, 0, none⟩) 3 3] x fun e w' => ∃ v', e = .returned v' ∧ RowG x w' x.heap.size v' (ps.take i ++ [⟨s, zs⟩] ++ ps.drop i)) := Lib.hid fun x h X hb h1 h2 c0 c1 c2 c3 c4 => concat3_any _ _ _ _ (ps.take i) [⟨s, zs⟩] (ps.drop i) _ h1 c0 c1 c2 (R1.out.later hb) (RdPs.single (p := ⟨s, zs⟩) h2 c3 c4 hsm (RU.out.later hb)) (RD.out.later hb) (by have := hLD.out; omega) (by simp) (by have := hLD.out; omega)
        have hbA : ∀ o1 o2, Below w4.drew.heap.size w4.drew ((w4.drew.alloc o1).alloc o2) := fun o1 o2 => ((Below.refl _ _).alloc (Nat.le_refl _) _).alloc (by simp) _
        have HBC : Hid (∀ (v : Value) (x : World), RdPs x v (ps.take i ++ [⟨s, zs⟩] ++ ps.drop i) → Calls Try.prog 75 #[v] x (CopyPost (bookB (ps.take i ++ [⟨s, zs⟩] ++ ps.drop i)) (ps.take i ++ [⟨s, zs⟩] ++ ps.drop i) x)) := Lib.hid fun v x h => bookOfCopies_any _ _ _ HSM.out h
        have KS : Hid (∀ x : World, Below w4.drew.heap.size w4.drew x → x.cell? ⟨w.heap.size, 0, none⟩ = some (.slice (some ⟨g, off, none⟩) n cap) ∧ x.cell? ⟨w.heap.size + 1, 0, none⟩ = some (.string s) ∧ x.cell? ⟨w.heap.size + 1, 1, none⟩ = some (.slice ua zs.length uc)) := Lib.hid fun x h => ⟨(K1.out x h).1, (K1.out x h).2.1, (K1.out x h).2.2.1⟩
        have KT : Hid (∀ (x : World) (q : Value), Below w4.drew.heap.size w4.drew x → (x.setCell ⟨w.heap.size + 1 + 1, 0, none⟩ q).cell? ⟨w.heap.size, 0, none⟩ = some (.slice (some ⟨g, off, none⟩) n cap) ∧ (x.setCell ⟨w.heap.size + 1 + 1, 0, none⟩ q).cell? ⟨w.heap.size + 1, 0, none⟩ = some (.string s) ∧ (x.setCell ⟨w.heap.size + 1 + 1, 0, none⟩ q).cell? ⟨w.heap.size + 1, 1, none⟩ = some (.slice ua zs.length uc)) := Lib.hid fun x q h => by
          rw [setc_far (by omega), setc_far (by omega), setc_far (by omega)]
          exact KS.out x h
        go_wp2_with fail
        go_region_held3 (fun w' => w'.cell? ⟨w.heap.size, 0, none⟩ = some (.slice (some ⟨g, off, none⟩) n cap) ∧ w'.cell? ⟨w.heap.size + 1, 0, none⟩ = some (.string s) ∧ w'.cell? ⟨w.heap.size + 1, 1, none⟩ = some (.slice ua zs.length uc))
          (first | go_keep | exact KS.out _ hb2 | exact KS.out _ hb3 | exact KT.out _ _ hb3 | (refine ⟨?_, ?_, ?_⟩ <;> first | exact (KT.out _ _ hb3).1 | exact (KT.out _ _ hb3).2.1 | exact (KT.out _ _ hb3).2.2) | (go_split_ands; refine ⟨?_, ?_, ?_⟩ <;> first | exact (KT.out _ _ hb3).1 | exact (KT.out _ _ hb3).2.1 | exact (KT.out _ _ hb3).2.2))
          (first | (go_at_call 76; refine (HCC.out _ _ w4.drew.heap.size (hbA _ _) (by simp) (by simp; omega) (by simp [go_sem]) (by simp [go_sem]) (by simp [go_sem]) (by simp [go_sem]) (by simp [go_sem])).mono ?_; rintro e w2 ⟨v2, rfl, hrow2⟩; have hb2 := (hbA _ _).trans (hrow2.below.mono (hbA _ _).size)) | (go_at_call 75; refine (HBC.out _ _ hrow2.rd).mono ?_; rintro e w3 ⟨v3, rfl, ho3, hb3'⟩; have hb3 := hb2.trans (hb3'.mono hb2.size); obtain ⟨a3, cap3, rfl, -⟩ := ho3.rd.len; have q3 := K1.out _ hb3; have q4 := q3.2.2.2.1; have q5 := q3.2.2.2.2.1; have q6 := q3.2.2.2.2.2))
        have HO3 : Hid (OwnPs w3 (w.heap.size + 3) (.slice a3 (okPs (bookB (ps.take i ++ [⟨s, zs⟩] ++ ps.drop i)) (ps.take i ++ [⟨s, zs⟩] ++ ps.drop i)).length cap3) (okPs (bookB (ps.take i ++ [⟨s, zs⟩] ++ ps.drop i)) (ps.take i ++ [⟨s, zs⟩] ++ ps.drop i))) := Lib.hid (ho3.base (by have := hb2.size; omega))
        go_wp2
        refine bodyPost_ret (v := .tuple #[.agg #[.slice a3 (okPs (bookB (ps.take i ++ [⟨s, zs⟩] ++ ps.drop i)) (ps.take i ++ [⟨s, zs⟩] ++ ps.drop i)).length cap3], .bool (bookB (ps.take i ++ [⟨s, zs⟩] ++ ps.drop i))]) (by simp [results, Try.results45, go_sem, q4, q5, q6]) rfl ⟨.slice a3 (okPs (bookB (ps.take i ++ [⟨s, zs⟩] ++ ps.drop i)) (ps.take i ++ [⟨s, zs⟩] ++ ps.drop i)).length cap3, by rw [HF.out, HD.out], ?_, ?_⟩
        · rw [HF.out, HD.out]; exact (HO3.out.setLow (b := w.heap.size + 1 + 1) (by omega)).base (by omega)
        · have hbb := hbD.trans (hb3.mono hbD.size)
          exact (hbW.trans (hbb.mono hbW.size)).setCell (p := ⟨w.heap.size + 1 + 1, 0, none⟩) (by show w.heap.size ≤ w.heap.size + 1 + 1; omega) _
end Go.Proofs.Ytkknmjioihnpkaa
