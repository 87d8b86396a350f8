/- Chapter 6: a net without a link. Written by a generator of this claim's author. -/
import Derived.Test.YteickcpmicifgaaNeE
namespace Go.Proofs.Yteickcpmicifgaa
open Go.RowKit Go.Sort
set_option linter.unusedSimpArgs false
set_option linter.unusedVariables false

set_option maxRecDepth 100000 in
set_option maxHeartbeats 2000000 in
theorem neWithout_any (c0 c1 : Value) (ts ls : List T3) (i : Nat) (w : World) (hr : RdN w c0 c1 ts ls) (h40 : ls.length ≤ 40) (hi : i < ls.length) :
    Calls Try.prog 65 #[.agg #[c0, c1], .int .i64 i] w fun e w' => ∃ v', e = .returned (.agg #[c0, v']) ∧ OwnR 53 c3 3 w' w.heap.size v' (woL ls i) ∧ Below w.heap.size w w' := by
  obtain ⟨a0, p0, rfl, hp0⟩ := hr.1.len
  obtain ⟨a1, p1, rfl, hp1⟩ := hr.2.len
  have hpm : p1 ≤ 9223372036854775807 ∨ ls.length = 0 := by
    rcases hr.2 with ⟨h, -⟩ | ⟨g, off, cap, hv, -, -, hm, -⟩
    · right; rw [h]; rfl
    · left; simp only [Value.slice.injEq] at hv; unfold maxLen at hm; omega
  have hpm : p1 ≤ 9223372036854775807 := by omega
  obtain ⟨n, hn⟩ : ∃ n, n = ts.length := ⟨_, rfl⟩
  obtain ⟨m, hm⟩ : ∃ m, m = ls.length := ⟨_, rfl⟩
  rw [← hn] at hr hp0
  rw [← hm] at hr hp1 h40 hi
  rw [← hn, ← hm]
  have HN := Lib.hid hn
  have HM := Lib.hid hm
  clear hn hm
  obtain ⟨g, off, ha1⟩ : ∃ g off, a1 = some ⟨g, off, none⟩ := by
    obtain ⟨g, off, h, -⟩ := hr.2.at_ HM.out i hi
    exact ⟨g, off, h⟩
  subst ha1
  obtain ⟨I1, hI1⟩ : ∃ I1, I1 = i + 1 := ⟨_, rfl⟩
  have HD : Hid (woL ls i = ls.take i ++ ls.drop I1) := Lib.hid (by rw [hI1]; rfl)
  have hw1 : IntKind.i64.wrap ((i : Int) + 1) = (I1 : Int) := by rw [IntWalk.i64_in _ (by omega)]; omega
  have hi0 : ¬ ((i : Int) < 0) := by omega
  have hi00 : (0 : Int) ≤ (i : Int) := by omega
  have hic0 : (i : Int) ≤ (p1 : Int) := by omega
  have hI00 : (0 : Int) ≤ (I1 : Int) := by omega
  have hIn0 : (I1 : Int) ≤ (m : Int) := by omega
  have hnc0 : (m : Int) ≤ (p1 : Int) := by omega
  have hIc : i ≤ p1 := by omega
  have hIn : I1 ≤ m := by omega
  have hIp : 0 < I1 := by omega
  have N0 := (NB.start hr 31).alloc (.cells #[.slice none 0 0, .slice none 0 0] 31)
  have HR := Lib.hid hr
  have c0f : ((w.alloc (.cells #[.slice a0 n p0, .slice (some ⟨g, off, none⟩) m p1] 31)).alloc (.cells #[.slice none 0 0, .slice none 0 0] 31)).cell? ⟨w.heap.size + 1, 0, none⟩ = some (.slice none 0 0) := by simp [go_sem]
  have c1f : ((w.alloc (.cells #[.slice a0 n p0, .slice (some ⟨g, off, none⟩) m p1] 31)).alloc (.cells #[.slice none 0 0, .slice none 0 0] 31)).cell? ⟨w.heap.size + 1, 1, none⟩ = some (.slice none 0 0) := by simp [go_sem]
  have f0f : ((w.alloc (.cells #[.slice a0 n p0, .slice (some ⟨g, off, none⟩) m p1] 31)).alloc (.cells #[.slice none 0 0, .slice none 0 0] 31)).frozen? ⟨w.heap.size + 1, 0, none⟩ = false := by simp [go_sem]
  have f1f : ((w.alloc (.cells #[.slice a0 n p0, .slice (some ⟨g, off, none⟩) m p1] 31)).alloc (.cells #[.slice none 0 0, .slice none 0 0] 31)).frozen? ⟨w.heap.size + 1, 1, none⟩ = false := by simp [go_sem]
  have hsz : ((w.alloc (.cells #[.slice a0 n p0, .slice (some ⟨g, off, none⟩) m p1] 31)).alloc (.cells #[.slice none 0 0, .slice none 0 0] 31)).heap.size = w.heap.size + 2 := by simp
  clear hr hI1
  have HLT : Hid ((ls.take i).length ≤ 100 ∧ (ls.drop I1).length ≤ 100) := Lib.hid (by have := HM.out; simp; omega)
  go_enter Try.func65, Try.ntmps65
  go_wp2
  generalize (w.alloc (.cells #[.slice a0 n p0, .slice (some ⟨g, off, none⟩) m p1] 31)).alloc (.cells #[.slice none 0 0, .slice none 0 0] 31) = W at *
  have ND := N0.drew
  have h0 := N0.b0
  have h1 := N0.b1
  -- what every later world keeps
  have K1 : Hid (∀ x : World, Below W.drew.heap.size W.drew x → (x.cell? ⟨w.heap.size, 0, none⟩ = some (.slice a0 n p0) ∧ x.cell? ⟨w.heap.size, 1, none⟩ = some (.slice (some ⟨g, off, none⟩) m p1)) ∧ (x.cell? ⟨w.heap.size + 1, 0, none⟩ = some (.slice none 0 0) ∧ x.cell? ⟨w.heap.size + 1, 1, none⟩ = some (.slice none 0 0)) ∧ (x.frozen? ⟨w.heap.size + 1, 0, none⟩ = false ∧ x.frozen? ⟨w.heap.size + 1, 1, none⟩ = false) ∧ w.heap.size + 2 ≤ x.heap.size) := Lib.hid fun x h => by
    have hz : W.drew.heap.size = w.heap.size + 2 := hsz
    refine ⟨⟨(ND.next h).b0, (ND.next h).b1⟩, ⟨?_, ?_⟩, ⟨?_, ?_⟩, by have := h.size; omega⟩
    · rw [h.cell (p := ⟨w.heap.size + 1, 0, none⟩) (by show w.heap.size + 1 < _; omega)]; exact c0f
    · rw [h.cell (p := ⟨w.heap.size + 1, 1, none⟩) (by show w.heap.size + 1 < _; omega)]; exact c1f
    · rw [h.frozen (p := ⟨w.heap.size + 1, 0, none⟩) (by show w.heap.size + 1 < _; omega)]; exact f0f
    · rw [h.frozen (p := ⟨w.heap.size + 1, 1, none⟩) (by show w.heap.size + 1 < _; omega)]; exact f1f
  have K2 : Hid (∀ (x : World) (p q : Value), Below W.drew.heap.size W.drew x → ((x.setCell ⟨w.heap.size + 1, 0, none⟩ p).setCell ⟨w.heap.size + 1, 1, none⟩ q).cell? ⟨w.heap.size, 0, none⟩ = some (.slice a0 n p0) ∧ ((x.setCell ⟨w.heap.size + 1, 0, none⟩ p).setCell ⟨w.heap.size + 1, 1, none⟩ q).cell? ⟨w.heap.size, 1, none⟩ = some (.slice (some ⟨g, off, none⟩) m p1)) := Lib.hid fun x p q h => by
    rw [setc_far (by omega), setc_far (by omega), setc_far (by omega), setc_far (by omega)]
    exact (K1.out _ h).1
  have hBD := ND.below
  have HRD : Hid (∀ x : World, Below W.drew.heap.size W.drew x → RdR c3 3 x (.slice (some ⟨g, off, none⟩) m p1) ls) := Lib.hid fun x h => (ND.next h).rd.2
  have hz2 : W.drew.heap.size = w.heap.size + 2 := hsz
  have he0 : OwnR 53 c3 3 (W.alloc (.cells #[] 53)).drew (w.heap.size + 2) (.slice (some ⟨w.heap.size + 2, 0, none⟩) 0 0) ([] : List T3) := by
    have h := OwnR.emptyLink W W.heap.size (Nat.le_refl _)
    rw [hsz] at h
    exact h.later (Below.refl _ _).drew
  have HE := Lib.hid he0
  have hbe : Below W.drew.heap.size W.drew (W.alloc (.cells #[] 53)).drew := (Below.refl W.drew.heap.size W.drew).alloc (Nat.le_refl _) (.cells #[] 53)
  have HBE := Lib.hid hbe
  have HRT : Hid (RdR c3 3 (W.alloc (.cells #[] 53)).drew (.slice (some ⟨g, off, none⟩) i p1) (ls.take i)) := Lib.hid ((HRD.out _ hbe).take i (by omega))
  have HL1 : Hid (([] : List T3).length + (ls.take i).length ≤ 4194304) := Lib.hid (by have := HLT.out; simp; omega)
  have HL2 : Hid ((ls.take i).length + (ls.drop I1).length ≤ 4194304) := Lib.hid (by have := HLT.out; omega)
  have HEL : Hid (∀ v, (Value.slice (some ⟨w.heap.size + 2, 0, none⟩) 0 0).ownBlock = some v → W.drew.heap.size ≤ v) := Lib.hid fun v hv => by simp [Value.ownBlock] at hv; omega
  clear he0 hbe c0f c1f f0f f1f N0 ND
  by_cases hcc : p1 = I1
  · subst hcc
    obtain rfl : m = p1 := by omega
    have HRD2 : Hid (∀ x : World, RdR c3 3 x (.slice (some ⟨g, off, none⟩) 0 0) (ls.drop m)) := Lib.hid fun x => .inl ⟨by rw [HM.out]; exact List.drop_length, _, _, rfl, fun h => by cases h⟩
    go_region_held3 (fun w' => w'.cell? ⟨w.heap.size, 0, none⟩ = some (.slice a0 n p0) ∧ w'.cell? ⟨w.heap.size, 1, none⟩ = some (.slice (some ⟨g, off, none⟩) m m))
      (first | go_keep | exact (K1.out _ HBE.out).1 | exact (K1.out _ hb2).1 | exact (K1.out _ hb3).1 | exact K2.out _ _ _ hb3)
      (first
        | (refine step_append_LinkS (by rfl) _ _ (by rfl) (w.heap.size + 2) _ _ [] (ls.take i) (by rfl) (by rfl) HE.out HRT.out HL1.out (by simp; omega) ?_; intro v2 w2 ho2 hg2 hat2; rw [List.nil_append] at ho2; have hb2 := HBE.out.grown hg2 (by simp) HEL.out; have hz3 := hb2.size)
        | (refine step_append_LinkS (by rfl) _ _ (by rfl) (w.heap.size + 2) _ _ (ls.take i) (ls.drop m) (by rfl) (by rfl) ho2 (HRD2.out _) HL2.out (by omega) ?_; intro v3 w3 ho3 hg3 hat3; have hb3 := hb2.grown hg3 hz3 (fun k hk => by have := (ho2.lt k hk).1; omega); obtain ⟨⟨k0, k1⟩, ⟨k2, k3⟩, ⟨k4, k5⟩, k6⟩ := K1.out _ hb3; obtain ⟨a3, cap3, rfl, -⟩ := ho3.rd.len))
    have HO := Lib.hid ho3
    go_wp2
    refine bodyPost_ret (v := .agg #[.slice a0 n p0, .slice a3 (ls.take i ++ (ls.drop m)).length cap3]) (by simp [results, Try.results65, go_sem, k0, k1, k2, k3, k4, k5, k6]) rfl ⟨_, rfl, ?_, ?_⟩
    · rw [HD.out]
      exact ((HO.out.setLow (b := w.heap.size + 1) (by omega)).setLow (b := w.heap.size + 1) (by omega)).base (by omega)
    · exact ((hBD.trans (hb3.mono hBD.size)).setCell (p := ⟨w.heap.size + 1, 0, none⟩) (by show w.heap.size ≤ w.heap.size + 1; omega) _).setCell (p := ⟨w.heap.size + 1, 1, none⟩) (by show w.heap.size ≤ w.heap.size + 1; omega) _
  · have HRD2 : Hid (∀ x : World, Below W.drew.heap.size W.drew x → RdR c3 3 x (.slice (some ⟨g, off + I1 * 3, none⟩) (m - I1) (p1 - I1)) (ls.drop I1)) := Lib.hid fun x h => (HRD.out _ h).drop hIn hcc
    go_region_held3 (fun w' => w'.cell? ⟨w.heap.size, 0, none⟩ = some (.slice a0 n p0) ∧ w'.cell? ⟨w.heap.size, 1, none⟩ = some (.slice (some ⟨g, off, none⟩) m p1))
      (first | go_keep | exact (K1.out _ HBE.out).1 | exact (K1.out _ hb2).1 | exact (K1.out _ hb3).1 | exact K2.out _ _ _ hb3)
      (first
        | (refine step_append_LinkS (by rfl) _ _ (by rfl) (w.heap.size + 2) _ _ [] (ls.take i) (by rfl) (by rfl) HE.out HRT.out HL1.out (by simp; omega) ?_; intro v2 w2 ho2 hg2 hat2; rw [List.nil_append] at ho2; have hb2 := HBE.out.grown hg2 (by simp) HEL.out; have hz3 := hb2.size)
        | (refine step_append_LinkS (by rfl) _ _ (by rfl) (w.heap.size + 2) _ _ (ls.take i) (ls.drop I1) (by rfl) (by rfl) ho2 (HRD2.out _ hb2) HL2.out (by omega) ?_; intro v3 w3 ho3 hg3 hat3; have hb3 := hb2.grown hg3 hz3 (fun k hk => by have := (ho2.lt k hk).1; omega); obtain ⟨⟨k0, k1⟩, ⟨k2, k3⟩, ⟨k4, k5⟩, k6⟩ := K1.out _ hb3; obtain ⟨a3, cap3, rfl, -⟩ := ho3.rd.len))
    have HO := Lib.hid ho3
    go_wp2
    refine bodyPost_ret (v := .agg #[.slice a0 n p0, .slice a3 (ls.take i ++ (ls.drop I1)).length cap3]) (by simp [results, Try.results65, go_sem, k0, k1, k2, k3, k4, k5, k6]) rfl ⟨_, rfl, ?_, ?_⟩
    · rw [HD.out]
      exact ((HO.out.setLow (b := w.heap.size + 1) (by omega)).setLow (b := w.heap.size + 1) (by omega)).base (by omega)
    · exact ((hBD.trans (hb3.mono hBD.size)).setCell (p := ⟨w.heap.size + 1, 0, none⟩) (by show w.heap.size ≤ w.heap.size + 1; omega) _).setCell (p := ⟨w.heap.size + 1, 1, none⟩) (by show w.heap.size ≤ w.heap.size + 1; omega) _
end Go.Proofs.Yteickcpmicifgaa
