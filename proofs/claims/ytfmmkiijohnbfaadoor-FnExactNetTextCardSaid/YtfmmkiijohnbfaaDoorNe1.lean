/- Chapter 6: the laws' helpers on nets. -/
import Derived.Test.YtfmmkiijohnbfaaDoorNe0
import Derived.Test.YtfmmkiijohnbfaaDoorReTower
import Derived.Test.YtfmmkiijohnbfaaDoorReLink
import Derived.Test.YtfmmkiijohnbfaaDoorIv
namespace Go.Proofs.YtfmmkiijohnbfaaDoor
open Go.RowKit
set_option linter.unusedSimpArgs false
set_option linter.unusedVariables false

/-- The two slices of a net read, in w, as towers and links. -/
def RdN (w : World) (c0 c1 : Value) (ts ls : List T3) : Prop := RdR c3 3 w c0 ts ∧ RdR c3 3 w c1 ls
theorem RdN.below {w w' : World} {C : Nat} {c0 c1 : Value} {ts ls : List T3} (h : RdN w c0 c1 ts ls) (hb : Below C w w') (hC : w.heap.size ≤ C) : RdN w' c0 c1 ts ls := ⟨h.1.below hb hC, h.2.below hb hC⟩
theorem RdN.later {w w' : World} {c0 c1 : Value} {ts ls : List T3} (h : RdN w c0 c1 ts ls) (hb : Below w.heap.size w w') : RdN w' c0 c1 ts ls := h.below hb (Nat.le_refl _)
/-- They own, among the blocks from B up to C, the towers and the links. -/
def OwnN (w : World) (B C : Nat) (c0 c1 : Value) (ts ls : List T3) : Prop :=
  (OwnR 69 c3 3 w B c0 ts ∧ ∀ k, c0.ownBlock = some k → k < C) ∧ (OwnR 71 c3 3 w B c1 ls ∧ ∀ k, c1.ownBlock = some k → k < C)
theorem OwnN.rd {w : World} {B C : Nat} {c0 c1 : Value} {ts ls : List T3} (h : OwnN w B C c0 c1 ts ls) : RdN w c0 c1 ts ls := ⟨h.1.1.rd, h.2.1.rd⟩
theorem OwnN.later {w w' : World} {B C : Nat} {c0 c1 : Value} {ts ls : List T3} (h : OwnN w B C c0 c1 ts ls) (hb : Below w.heap.size w w') : OwnN w' B C c0 c1 ts ls := ⟨⟨h.1.1.later hb, h.1.2⟩, ⟨h.2.1.later hb, h.2.2⟩⟩
theorem OwnN.kept {w w' : World} {B C B' C' : Nat} {c0 c1 : Value} {ts ls : List T3} (h : OwnN w B C c0 c1 ts ls) (hk : Kp B' C' w w') (hx : C ≤ B' ∨ C' ≤ B) : OwnN w' B C c0 c1 ts ls :=
  ⟨⟨row_at h.1.1 fun k hk' => hk.block k (h.1.1.lt k hk').2 (by have := (h.1.1.lt k hk').1; have := h.1.2 k hk'; omega), h.1.2⟩,
   ⟨row_at h.2.1 fun k hk' => hk.block k (h.2.1.lt k hk').2 (by have := (h.2.1.lt k hk').1; have := h.2.2 k hk'; omega), h.2.2⟩⟩
theorem OwnN.nil (w : World) (B C : Nat) : OwnN w B C (.slice none 0 0) (.slice none 0 0) [] [] := ⟨⟨OwnR.nil _ _, fun k hk => by cases hk⟩, ⟨OwnR.nil _ _, fun k hk => by cases hk⟩⟩

theorem OwnR.setLow {T : Type} {cl : T → Nat → Value} {k : Nat} {e : TypeId} {w : World} {B : Nat} {v : Value} {ts : List T} (h : OwnR e cl k w B v ts) {b o : Nat} {x : Value} (hb : b < B) : OwnR e cl k (w.setCell ⟨b, o, none⟩ x) B v ts :=
  row_at h fun j hj => Below.heap_setCell _ _ _ _ (by show j ≠ b; have := (h.lt j hj).1; omega)

theorem szNet_any (c0 c1 : Value) (ts ls : List T3) (left : Int) (w : World) (h0 : 0 ≤ left) (h1 : left ≤ 1048576) (hr : RdN w c0 c1 ts ls) :
    Calls Tryd.prog 5 #[.agg #[c0, c1], .int .i64 left] w fun e w' => Below w.heap.size w w' ∧ ∃ r : Int, e = .returned (.int .i64 r) ∧ (r = -1 ∨ (0 ≤ r ∧ ts.length ≤ 1048576 ∧ ls.length ≤ 1048576)) := by
  have hB := (Below.refl w.heap.size w).alloc (Nat.le_refl _) (.cells #[c0, c1] 25)
  have hr1 := hr.later hB
  clear hr
  go_enter Tryd.func5, Tryd.ntmps5
  go_wp2_with fail
  refine (szTowerS_any _ ts _ _ h0 h1 hr1.1).mono ?_
  rintro e w1 ⟨rfl, r, rfl, hr'⟩
  rcases hr' with rfl | ⟨r0, hr0⟩
  · go_wp2
    go_ret
    exact ⟨hB, _, rfl, .inl rfl⟩
  · have HR0 := Lib.hid hr0
    have r1 : r ≤ 1048576 := by omega
    clear hr0
    go_wp2_with fail
    refine (szLinkS_any _ ls _ _ r0 r1 hr1.2).mono ?_
    rintro e w1 ⟨rfl, r', rfl, hr''⟩
    rcases hr'' with rfl | ⟨r0', hr0'⟩
    · go_wp2
      go_ret
      exact ⟨hB, _, rfl, .inl rfl⟩
    · have HR1 := Lib.hid hr0'
      clear hr0'
      go_wp2
      go_ret
      exact ⟨hB, _, rfl, .inr ⟨r0', by have := HR0.out; omega, by have := HR1.out; omega⟩⟩

set_option maxHeartbeats 800000 in
theorem toNet_any (c0 c1 : Value) (ts ls : List T3) (w : World) (hz0 : ts.length ≤ 1048576) (hz1 : ls.length ≤ 1048576) (hr : RdN w c0 c1 ts ls) :
    Calls Tryd.prog 7 #[.agg #[c0, c1]] w fun e w' => ∃ v0 v1, e = .returned (.agg #[v0, v1]) ∧ OwnN w' w.heap.size w'.heap.size v0 v1 ts ls ∧ Below w.heap.size w w' := by
  go_enter Tryd.func7, Tryd.ntmps7
  have hB : Below w.heap.size w (((w.alloc (.cells #[c0, c1] 25)).alloc (.cells #[.slice none 0 0, .slice none 0 0] 32)).alloc (.cells #[.slice none 0 0, .slice none 0 0] 32)) := (((Below.refl _ _).alloc (Nat.le_refl _) _).alloc (by simp) _).alloc (by simp; omega) _
  have hr1 := hr.later hB
  go_wp2_with fail
  refine (toTowerS_any _ ts _ hz0 hr1.1).mono ?_
  rintro e w1 ⟨v0, rfl, ho0, hb0⟩
  obtain ⟨ad, cap, rfl, -⟩ := ho0.rd.len
  have a0 := hb0.cell (p := ⟨w.heap.size, 1, none⟩) (by simp; omega)
  have b0 := hb0.cell (p := ⟨w.heap.size + 1 + 1, 0, none⟩) (by simp)
  have b1 := hb0.cell (p := ⟨w.heap.size + 1 + 1, 1, none⟩) (by simp)
  have f0 := hb0.frozen (p := ⟨w.heap.size + 1 + 1, 0, none⟩) (by simp)
  have f1 := hb0.frozen (p := ⟨w.heap.size + 1 + 1, 1, none⟩) (by simp)
  have d0 := hb0.cell (p := ⟨w.heap.size + 1, 0, none⟩) (by simp)
  have d1 := hb0.cell (p := ⟨w.heap.size + 1, 1, none⟩) (by simp)
  have e0 := hb0.frozen (p := ⟨w.heap.size + 1, 0, none⟩) (by simp)
  have e1 := hb0.frozen (p := ⟨w.heap.size + 1, 1, none⟩) (by simp)
  have hz := hb0.size
  simp [go_sem] at a0 b0 b1 f0 f1 d0 d1 e0 e1 hz
  go_wp2_with fail
  have hB1 := (hB.trans (hb0.mono hB.size)).setCell (p := ⟨w.heap.size + 1 + 1, 0, none⟩) (by show w.heap.size ≤ w.heap.size + 1 + 1; omega) (.slice ad ts.length cap)
  have ho1 := ho0.setLow (b := w.heap.size + 1 + 1) (o := 0) (x := .slice ad ts.length cap) (by simp)
  have hr2 := hr.later hB1
  refine (toLinkS_any _ ls _ hz1 hr2.2).mono ?_
  rintro e w2 ⟨v1, rfl, ho2, hb1⟩
  obtain ⟨ad1, cap1, rfl, -⟩ := ho2.rd.len
  have hsz : (w1.setCell ⟨w.heap.size + 1 + 1, 0, none⟩ (.slice ad ts.length cap)).heap.size = w1.heap.size := by simp
  have b0 := hb1.cell (p := ⟨w.heap.size + 1 + 1, 0, none⟩) (by simp; omega)
  have b1 := hb1.cell (p := ⟨w.heap.size + 1 + 1, 1, none⟩) (by simp; omega)
  have f0 := hb1.frozen (p := ⟨w.heap.size + 1 + 1, 0, none⟩) (by simp; omega)
  have f1 := hb1.frozen (p := ⟨w.heap.size + 1 + 1, 1, none⟩) (by simp; omega)
  have d0 := hb1.cell (p := ⟨w.heap.size + 1, 0, none⟩) (by simp; omega)
  have d1 := hb1.cell (p := ⟨w.heap.size + 1, 1, none⟩) (by simp; omega)
  have e0 := hb1.frozen (p := ⟨w.heap.size + 1, 0, none⟩) (by simp; omega)
  have e1 := hb1.frozen (p := ⟨w.heap.size + 1, 1, none⟩) (by simp; omega)
  have hz' := hb1.size
  simp [go_sem, *] at b0 b1 f0 f1 d0 d1 e0 e1 hz'
  have ho1 := ho1.later hb1
  go_wp2
  refine bodyPost_ret (v := .agg #[.slice ad ts.length cap, .slice ad1 ls.length cap1]) (by simp [results, Tryd.results7, go_sem, *]) rfl ⟨_, _, rfl, ?_, ?_⟩
  · have p1 := ((ho1.setLow (b := w.heap.size + 1 + 1) (o := 1) (x := .slice ad1 ls.length cap1) (by simp)).setLow (b := w.heap.size + 1) (o := 0) (x := .slice ad ts.length cap) (by simp <;> omega)).setLow (b := w.heap.size + 1) (o := 1) (x := .slice ad1 ls.length cap1) (by simp <;> omega)
    have p2 := ((ho2.setLow (b := w.heap.size + 1 + 1) (o := 1) (x := .slice ad1 ls.length cap1) (by simp <;> omega)).setLow (b := w.heap.size + 1) (o := 0) (x := .slice ad ts.length cap) (by simp <;> omega)).setLow (b := w.heap.size + 1) (o := 1) (x := .slice ad1 ls.length cap1) (by simp <;> omega)
    exact ⟨⟨p1.base (by simp; omega), fun k hk => (p1.lt k hk).2⟩, ⟨p2.base (by simp; omega), fun k hk => (p2.lt k hk).2⟩⟩
  · exact (((hB1.trans (hb1.mono hB1.size)).setCell (p := ⟨w.heap.size + 1 + 1, 1, none⟩) (by show w.heap.size ≤ w.heap.size + 1 + 1; omega) _).setCell (p := ⟨w.heap.size + 1, 0, none⟩) (by show w.heap.size ≤ w.heap.size + 1; omega) _).setCell (p := ⟨w.heap.size + 1, 1, none⟩) (by show w.heap.size ≤ w.heap.size + 1; omega) _

theorem eqNet_true (c0 c1 d0 d1 : Value) (ts ls : List T3) (w : World) (h1 : RdN w c0 c1 ts ls) (h2 : RdN w d0 d1 ts ls) :
    Calls Tryd.prog 9 #[.agg #[c0, c1], .agg #[d0, d1]] w fun e w' => e = .returned (.bool true) ∧ Below w.heap.size w w' := by
  have hB := ((Below.refl w.heap.size w).alloc (Nat.le_refl _) (.cells #[c0, c1] 32)).alloc (by simp) (.cells #[d0, d1] 32)
  have h1' := h1.later hB
  have h2' := h2.later hB
  clear h1 h2
  go_enter Tryd.func9, Tryd.ntmps9
  go_wp2_with fail
  refine (eqTowerS_true _ _ ts _ h1'.1 h2'.1).mono ?_
  rintro e w1 ⟨rfl, hb1⟩
  have a1 := hb1.cell (p := ⟨w.heap.size, 1, none⟩) (by simp; omega)
  have b1 := hb1.cell (p := ⟨w.heap.size + 1, 1, none⟩) (by simp)
  simp [go_sem] at a1 b1
  have hB1 := hB.trans (hb1.mono hB.size)
  have k1 := h1'.later hb1
  have k2 := h2'.later hb1
  clear h1' h2'
  go_wp2_with fail
  refine (eqLinkS_true _ _ ls _ k1.2 k2.2).mono ?_
  rintro e w2 ⟨rfl, hb2⟩
  go_wp2
  go_ret
  exact ⟨rfl, hB1.trans (hb2.mono hB1.size)⟩

theorem markNet_any (B C : Nat) (c0 c1 : Value) (ts ls : List T3) (k0 : Int) (w : World) (h0 : 0 ≤ k0) (h1 : k0 ≤ 1048577) (hz0 : ts.length ≤ 1048576) (hz1 : ls.length ≤ 1048576) (hC : C ≤ w.heap.size) (ho : OwnN w B C c0 c1 ts ls) :
    Calls Tryd.prog 12 #[.agg #[c0, c1], .int .i64 k0] w fun e w' => e = .returned (.int .i64 (k0 + 3 * ts.length + 3 * ls.length)) ∧ OwnN w' B C c0 c1 (markR3 k0 ts.length) (markR3 (k0 + 3 * ts.length) ls.length) ∧ Kp B C w w' := by
  have hB := (Below.refl w.heap.size w).alloc (Nat.le_refl _) (.cells #[c0, c1] 32)
  have ho1 := ho.later hB
  have hl := ho.2.2
  clear ho
  go_enter Tryd.func12, Tryd.ntmps12
  go_wp2_with fail
  refine (markTowerS_any B _ ts _ _ h0 (by omega) hz0 ho1.1.1).mono ?_
  rintro e w1 ⟨rfl, hm0, hg0⟩
  have hk0 : Kp B C _ _ := Kp.of_grown hg0 (fun k hk => ⟨(ho1.1.1.lt k hk).1, ho1.1.2 k hk⟩)
  have a1 : w1.cell? ⟨w.heap.size, 1, none⟩ = some c1 := hg0.cell (by simp [go_sem]) (by
    intro e
    have := ho1.1.2 _ e.symm
    simp at this; omega)
  have ho2 : OwnR 71 c3 3 w1 B c1 ls := ho1.2.1.kept hg0 (row_apart ho1.2.1 ho1.1.1 (by decide))
  have hk0t : 0 ≤ k0 + 3 * (ts.length : Int) := by omega
  have hk0u : k0 + 3 * (ts.length : Int) ≤ 1099511627776 := by omega
  go_wp2_with fail
  refine (markLinkS_any B _ ls _ _ hk0t hk0u hz1 ho2).mono ?_
  rintro e w2 ⟨rfl, hm1, hg1⟩
  have hk1 : Kp B C _ _ := Kp.of_grown hg1 (fun k hk => ⟨(ho2.lt k hk).1, hl k hk⟩)
  have hm0' := hm0.kept hg1 (row_apart hm0 ho2 (by decide))
  have hf0 := ho1.1.2
  go_wp2
  go_ret
  exact ⟨rfl, ⟨⟨hm0', hf0⟩, ⟨hm1, hl⟩⟩, ((Kp.of_below hB).trans hk0).trans hk1⟩

theorem heldNet_any (c0 c1 : Value) (n m : Nat) (k0 : Int) (w : World) (h0 : 0 ≤ k0) (h1 : k0 ≤ 1048577) (hz0 : n ≤ 1048576) (hz1 : m ≤ 1048576) (hr : RdN w c0 c1 (markR3 k0 n) (markR3 (k0 + 3 * n) m)) :
    Calls Tryd.prog 13 #[.agg #[c0, c1], .int .i64 k0] w fun e w' => e = .returned (.int .i64 (k0 + 3 * n + 3 * m)) ∧ Below w.heap.size w w' := by
  have hB := (Below.refl w.heap.size w).alloc (Nat.le_refl _) (.cells #[c0, c1] 32)
  have hr1 := hr.later hB
  clear hr
  have hk0t : 0 ≤ k0 + 3 * (n : Int) := by omega
  have hk0u : k0 + 3 * (n : Int) ≤ 1099511627776 := by omega
  have hk0v : 0 ≤ k0 + 3 * (n : Int) + 3 * (m : Int) := by omega
  go_enter Tryd.func13, Tryd.ntmps13
  go_wp2_with fail
  refine (heldTowerS_any _ n _ _ h0 (by omega) hz0 hr1.1).mono ?_
  rintro e w1 ⟨rfl, rfl⟩
  go_wp2_with fail
  refine (heldLinkS_any _ m _ _ hk0t hk0u hz1 hr1.2).mono ?_
  rintro e w2 ⟨rfl, rfl⟩
  go_wp2
  go_ret
  exact ⟨rfl, hB⟩
end Go.Proofs.YtfmmkiijohnbfaaDoor
