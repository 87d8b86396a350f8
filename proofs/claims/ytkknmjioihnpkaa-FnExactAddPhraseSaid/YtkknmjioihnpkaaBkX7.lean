/- Chapter 2: the exact law of DropPhrase. -/
import Derived.Test.YtkknmjioihnpkaaBkX6
namespace Go.Proofs.Ytkknmjioihnpkaa
open Go.RowKit
set_option linter.unusedSimpArgs false
set_option linter.unusedVariables false

/-- Four boxes. -/
def Cs (x : World) (p q r s : Nat) (a b c d : Value) : Prop := x.cell? ⟨p, 0, none⟩ = some a ∧ x.cell? ⟨q, 0, none⟩ = some b ∧ x.cell? ⟨r, 0, none⟩ = some c ∧ x.cell? ⟨s, 0, none⟩ = some d
theorem Cs.same {x y : World} {p q r s : Nat} {a b c d : Value} (h : Cs x p q r s a b c d) (e : ∀ k, (k = p ∨ k = q ∨ k = r ∨ k = s) → y.heap[k]? = x.heap[k]?) : Cs y p q r s a b c d := by
  obtain ⟨h1, h2, h3, h4⟩ := h
  exact ⟨by rw [World.cell?_of_block (e p (.inl rfl))]; exact h1, by rw [World.cell?_of_block (e q (.inr (.inl rfl)))]; exact h2, by rw [World.cell?_of_block (e r (.inr (.inr (.inl rfl))))]; exact h3, by rw [World.cell?_of_block (e s (.inr (.inr (.inr rfl))))]; exact h4⟩
theorem Cs.below {x y : World} {p q r s : Nat} {a b c d : Value} (h : Cs x p q r s a b c d) {C : Nat} (hb : Below C x y) (hC : p < C ∧ q < C ∧ r < C ∧ s < C) : Cs y p q r s a b c d :=
  h.same fun k hk => hb.block k (by omega)
theorem Cs.kept {x y : World} {p q r s : Nat} {a b c d : Value} (h : Cs x p q r s a b c d) {B C : Nat} (hb : KeptBC B C x y) (hl : p < x.heap.size ∧ q < x.heap.size ∧ r < x.heap.size ∧ s < x.heap.size) (hC : (p < B ∨ C ≤ p) ∧ (q < B ∨ C ≤ q) ∧ (r < B ∨ C ≤ r) ∧ (s < B ∨ C ≤ s)) : Cs y p q r s a b c d :=
  h.same fun k hk => hb.block k (by omega) (by omega)
theorem OwnU.low {w w' : World} {B C : Nat} {v : Value} {ps : List Ph} {us : Nat → Value} (h : OwnU w B C v ps us) (hb : Below C w w') : OwnU w' B C v ps us := by
  obtain ⟨h1, h2, h3, h4⟩ := h
  exact ⟨row_below h1 hb h4, fun i hi => ⟨(h2 i hi).1, (h2 i hi).2.1.below hb (h2 i hi).2.2, (h2 i hi).2.2⟩, h3, h4⟩
theorem SmallPs.ok {ps : List Ph} (h : SmallPs ps) (c : Bool) : SmallPs (okPs c ps) := by
  cases c with
  | false => exact ⟨by simp [okPs], fun i hi => absurd hi (by simp [okPs])⟩
  | true => exact h

set_option maxRecDepth 100000 in
set_option maxHeartbeats 1600000 in
theorem walk_FnExactDropPhrase (v0 : Value) (ps : List Ph) (s : ByteArray) (w : World) (w0 : RdPs w v0 ps) (w1 : s.size ≤ maxLen) :
    Calls Try.prog 13 #[.agg #[v0], .string s] w fun e w' => e = .returned (.bool true) ∧ Below w.heap.size w w' := by
  obtain ⟨a, cap, rfl, -⟩ := w0.len
  have hbW := (Below.refl w.heap.size w).alloc (Nat.le_refl _) (.cells #[.slice a ps.length cap] 41)
  have hrW := w0.later hbW
  have hcW : (w.alloc (.cells #[.slice a ps.length cap] 41)).cell? ⟨w.heap.size, 0, none⟩ = some (.slice a ps.length cap) := by simp [go_sem]
  have hsW : w.heap.size < (w.alloc (.cells #[.slice a ps.length cap] 41)).heap.size := by simp
  have hm := w1
  have hs := w1
  unfold maxLen at hm
  by_cases hlong : 1048576 < s.size
  · go_enter Try.func13, Try.ntmps13
    go_wp2
    go_ret
    exact ⟨rfl, hbW⟩
  · go_enter Try.func13, Try.ntmps13
    go_wp2_with fail
    generalize w.alloc (.cells #[.slice a ps.length cap] 41) = W at *
    refine (szBook_any _ ps _ _ (by omega) (by omega) hrW).mono ?_
    rintro e w1 ⟨r, rfl, hb1, hr⟩
    have c1 := hcW ▸ hb1.cell (p := ⟨w.heap.size, 0, none⟩) hsW
    rcases hr with rfl | ⟨r0, r1, hsm⟩
    · go_wp2
      go_ret
      exact ⟨rfl, hbW.trans (hb1.mono hbW.size)⟩
    · obtain ⟨cb, hcb⟩ : ∃ cb, cb = dropC ps s := ⟨_, rfl⟩
      obtain ⟨qs, hqs⟩ : ∃ qs, qs = okPs (dropC ps s) (dropL ps s) := ⟨_, rfl⟩
      have hsq : SmallPs qs := by rw [hqs]; exact (dropL_small hsm).ok _
      have HSP : Hid (∀ (v : Value) (x : World), RdPs x v ps → Calls Try.prog 49 #[.agg #[v], .string s] x fun e x' => ∃ v', e = .returned (.tuple #[.agg #[v'], .bool cb]) ∧ OwnPs x' x.heap.size v' qs ∧ Below x.heap.size x x') := Lib.hid fun v x h => by rw [hcb, hqs]; exact specDrop_any v ps s x hs hsm h
      have HIM : Hid (∀ (v : Value) (x : World), RdPs x v ps → Calls Try.prog 50 #[.agg #[v], .string s] x fun e x' => ∃ v', e = .returned (.tuple #[.agg #[v'], .bool cb]) ∧ OwnPs x' x.heap.size v' qs ∧ Below x.heap.size x x') := Lib.hid fun v x h => by rw [hcb, hqs]; exact implDrop_any v ps s x hs hsm h
      have hmn := markN_nonneg 1 ps
      have hmq := markN_nonneg 1 qs
      clear hcb hqs
      go_wp2_with fail
      refine (toBook_any _ ps _ hsm (hrW.later hb1)).mono ?_
      rintro e w2 ⟨v2, rfl, ho2, hb2⟩
      have hB2 := hb1.trans (hb2.mono hb1.size)
      have c2 := hcW ▸ hB2.cell (p := ⟨w.heap.size, 0, none⟩) hsW
      clear c1
      go_wp2_with fail
      refine (HSP.out _ _ ho2.rd).mono ?_
      rintro e w3 ⟨v3, rfl, ho3, hb3⟩
      obtain ⟨u3, hu3⟩ := ho3.u
      obtain ⟨a3, cap3, rfl, -⟩ := ho3.rd.len
      have hB3 := hB2.trans (hb3.mono hB2.size)
      have hb6 := (Below.refl w3.heap.size w3).alloc (Nat.le_refl _) (.cells #[.slice a3 qs.length cap3] 25)
      have hB6 := hB3.trans (hb6.mono hB3.size)
      have c6 := hcW ▸ hB6.cell (p := ⟨w.heap.size, 0, none⟩) hsW
      have x6 : (w3.alloc (.cells #[.slice a3 qs.length cap3] 25)).cell? ⟨w3.heap.size, 0, none⟩ = some (.slice a3 qs.length cap3) := by simp [go_sem]
      have s6 : (w3.alloc (.cells #[.slice a3 qs.length cap3] 25)).heap.size = w3.heap.size + 1 := by simp
      have ho36 := ho3.later hb6
      have s23 := hB3.size
      clear c2 ho2
      go_wp2_with fail
      generalize w3.alloc (.cells #[.slice a3 qs.length cap3] 25) = W6 at *
      refine (toBook_any _ ps _ hsm (hrW.later hB6)).mono ?_
      rintro e w4 ⟨v4, rfl, ho4, hb4⟩
      have s4 := hb4.size
      have hB4 := hB6.trans (hb4.mono hB6.size)
      obtain ⟨us, hu4⟩ := ho4.u
      obtain ⟨aX, capX, rfl, -⟩ := ho4.rd.len
      have hb8 := (Below.refl w4.heap.size w4).alloc (Nat.le_refl _) (.cells #[.slice aX ps.length capX] 25)
      have hB8 := hB4.trans (hb8.mono hB4.size)
      have c8 := hcW ▸ hB8.cell (p := ⟨w.heap.size, 0, none⟩) hsW
      have hb68 := hb4.trans (hb8.mono s4)
      have x8 := x6 ▸ hb68.cell (p := ⟨w3.heap.size, 0, none⟩) (by show w3.heap.size < W6.heap.size; omega)
      have y8 : (w4.alloc (.cells #[.slice aX ps.length capX] 25)).cell? ⟨w4.heap.size, 0, none⟩ = some (.slice aX ps.length capX) := by simp [go_sem]
      have s8 : (w4.alloc (.cells #[.slice aX ps.length capX] 25)).heap.size = w4.heap.size + 1 := by simp
      have rX := ho4.rd.later hb8
      have ho38 := ho36.later hb68
      clear c6 x6 ho4
      go_wp2_with fail
      generalize w4.alloc (.cells #[.slice aX ps.length capX] 25) = W8 at *
      refine (HIM.out _ _ rX).mono ?_
      rintro e w5 ⟨v5, rfl, ho5, hb5⟩
      have s5 := hb5.size
      obtain ⟨ug, hu5⟩ := ho5.u
      obtain ⟨a5, cap5, rfl, -⟩ := ho5.rd.len
      have hb9 := (Below.refl w5.heap.size w5).alloc (Nat.le_refl _) (.cells #[.slice a5 qs.length cap5] 25)
      have hb59 := hb5.trans (hb9.mono s5)
      have hB9 := hB8.trans (hb59.mono hB8.size)
      have F9 : Cs (w5.alloc (.cells #[.slice a5 qs.length cap5] 25)) w.heap.size w3.heap.size w4.heap.size w5.heap.size (.slice a ps.length cap) (.slice a3 qs.length cap3) (.slice aX ps.length capX) (.slice a5 qs.length cap5) :=
        ⟨c8 ▸ hb59.cell (p := ⟨w.heap.size, 0, none⟩) (by show w.heap.size < W8.heap.size; omega), x8 ▸ hb59.cell (p := ⟨w3.heap.size, 0, none⟩) (by show w3.heap.size < W8.heap.size; omega), y8 ▸ hb59.cell (p := ⟨w4.heap.size, 0, none⟩) (by show w4.heap.size < W8.heap.size; omega), by simp [go_sem]⟩
      have s9 : (w5.alloc (.cells #[.slice a5 qs.length cap5] 25)).heap.size = w5.heap.size + 1 := by simp
      have ho39 := ho38.later hb59
      have ho59 := ho5.rd.later hb9
      have rX9 := rX.later hb59
      have sA : w.heap.size < w3.heap.size := by omega
      obtain ⟨k1, k2, k3, k4⟩ := F9
      clear c8 x8 y8 ho5
      go_wp2_with fail
      generalize w5.alloc (.cells #[.slice a5 qs.length cap5] 25) = W9 at *
      have F9 : Cs W9 w.heap.size w3.heap.size w4.heap.size w5.heap.size (.slice a ps.length cap) (.slice a3 qs.length cap3) (.slice aX ps.length capX) (.slice a5 qs.length cap5) := ⟨k1, k2, k3, k4⟩
      clear k1 k2 k3 k4
      refine (eqBook_true _ _ qs _ ho59 ho39.rd).mono ?_
      rintro e wE ⟨rfl, hbE⟩
      have sE := hbE.size
      have FE := F9.below hbE (by omega)
      obtain ⟨k1, k2, k3, k4⟩ := FE
      go_wp2
      have FE : Cs wE w.heap.size w3.heap.size w4.heap.size w5.heap.size (.slice a ps.length cap) (.slice a3 qs.length cap3) (.slice aX ps.length capX) (.slice a5 qs.length cap5) := ⟨k1, k2, k3, k4⟩
      have hBD := (hB9.trans (hbE.mono hB9.size)).drew
      have K1 : Hid (∀ y : World, Below wE.drew.heap.size wE.drew y → Cs y w.heap.size w3.heap.size w4.heap.size w5.heap.size (.slice a ps.length cap) (.slice a3 qs.length cap3) (.slice aX ps.length capX) (.slice a5 qs.length cap5)) := Lib.hid fun y h => by
        have hd : (wE.drew).heap.size = wE.heap.size := rfl
        refine Cs.below (x := wE.drew) ?_ h (by rw [hd]; omega)
        exact FE.below (C := wE.heap.size) (Below.refl _ _).drew (by omega)
      have rXD := (rX9.later hbE).later (Below.refl _ wE).drew
      go_region_held3 (fun w' => w'.cell? ⟨w.heap.size, 0, none⟩ = some (.slice a ps.length cap) ∧ w'.cell? ⟨w4.heap.size, 0, none⟩ = some (.slice aX ps.length capX))
        (first | go_keep | exact ⟨(K1.out _ hbY).1, (K1.out _ hbY).2.2.1⟩ | exact ⟨(K1.out _ hbZ).1, (K1.out _ hbZ).2.2.1⟩)
        (first | (go_at_call 28; refine (toBook_any _ ps wE.drew hsm (hrW.later hBD)).mono ?_; rintro e wY ⟨vY, rfl, hoY, hbY⟩) | (go_at_call 30; refine (eqBook_true _ _ ps _ (rXD.later hbY) hoY.rd).mono ?_; rintro e wZ ⟨rfl, hbZ'⟩; have hbZ := hbY.trans (hbZ'.mono hbY.size)))
      have FZ := K1.out _ hbZ
      have hbEZ : Below wE.heap.size wE wZ := (Below.refl _ wE).drew.trans (hbZ.mono (Nat.le_refl _))
      have sZ := hbEZ.size
      have hb9Z := hbE.trans (hbEZ.mono sE)
      have hBZ := hB9.trans (hb9Z.mono hB9.size)
      have ho3Z := ho39.later hb9Z
      have hu4Z := hu4.later (hb8.trans ((hb59.trans (hb9Z.mono (by omega))).mono (by omega)))
      have hu5Z := hu5.later (hb9.trans (hb9Z.mono (by omega)))
      clear K1 FE k1 k2 k3 k4
      obtain ⟨k1, k2, k3, k4⟩ := FZ
      go_wp2_with fail
      refine (markBook_any W6.heap.size w4.heap.size _ ps us 1 _ (by omega) (by omega) hsm hu4Z).mono ?_
      rintro e w9 ⟨rfl, hu9, hk9⟩
      have F10 := Cs.kept (⟨k1, k2, k3, k4⟩ : Cs wZ w.heap.size w3.heap.size w4.heap.size w5.heap.size (.slice a ps.length cap) (.slice a3 qs.length cap3) (.slice aX ps.length capX) (.slice a5 qs.length cap5)) hk9 (by omega) (by omega)
      have hk9b := hk9.below (by omega)
      have sM := hk9b.size
      have hB9' := hBZ.trans (hk9b.mono (by omega))
      have hLZ : Below w3.heap.size w3 wZ := hb6.trans ((hb68.trans ((hb59.trans (hb9Z.mono (by omega))).mono (by omega))).mono (by omega))
      have hL9 := hLZ.trans (hk9b.mono (by omega))
      have hu59 : OwnU w9 W8.heap.size w5.heap.size _ qs ug := hu5Z.same fun k hk hl => hk9.block k hl (.inr (by omega))
      have hu39 := hu3.low hL9
      clear k1 k2 k3 k4
      obtain ⟨k1, k2, k3, k4⟩ := F10
      go_wp2_with fail
      refine (eqBook_true _ _ qs _ hu59.ps.rd hu39.ps.rd).mono ?_
      rintro e w10 ⟨rfl, hb10⟩
      have s10 := hb10.size
      have F11 := Cs.below (⟨k1, k2, k3, k4⟩ : Cs w9 w.heap.size w3.heap.size w4.heap.size w5.heap.size (.slice a ps.length cap) (.slice a3 qs.length cap3) (.slice aX ps.length capX) (.slice a5 qs.length cap5)) hb10 (by omega)
      have hL10 := hL9.trans (hb10.mono (by omega))
      have hB10 := hB9'.trans (hb10.mono (by omega))
      have hu510 := hu59.later hb10
      clear k1 k2 k3 k4
      obtain ⟨k1, k2, k3, k4⟩ := F11
      go_wp2_with fail
      refine (markBook_any W8.heap.size w5.heap.size _ qs ug 1 _ (by omega) (by omega) hsq hu510).mono ?_
      rintro e w11 ⟨rfl, hu11, hk11⟩
      have F12 := Cs.kept (⟨k1, k2, k3, k4⟩ : Cs w10 w.heap.size w3.heap.size w4.heap.size w5.heap.size (.slice a ps.length cap) (.slice a3 qs.length cap3) (.slice aX ps.length capX) (.slice a5 qs.length cap5)) hk11 (by omega) (by omega)
      have hk11b := hk11.below (by omega)
      have s11 := hk11b.size
      have hL11 := hL10.trans (hk11b.mono (by omega))
      have hB11 := hB10.trans (hk11b.mono (by omega))
      clear k1 k2 k3 k4
      obtain ⟨k1, k2, k3, k4⟩ := F12
      go_wp2_with fail
      refine (heldBook_any _ qs 1 _ (by omega) (by omega) hsq hu11.ps.rd).mono ?_
      rintro e w12 ⟨rfl, hb12⟩
      have s12 := hb12.size
      have F13 := Cs.below (⟨k1, k2, k3, k4⟩ : Cs w11 w.heap.size w3.heap.size w4.heap.size w5.heap.size (.slice a ps.length cap) (.slice a3 qs.length cap3) (.slice aX ps.length capX) (.slice a5 qs.length cap5)) hb12 (by omega)
      have hL12 := hL11.trans (hb12.mono (by omega))
      have hB12 := hB11.trans (hb12.mono (by omega))
      have hu512 := hu11.later hb12
      clear k1 k2 k3 k4
      obtain ⟨k1, k2, k3, k4⟩ := F13
      go_wp2_with fail
      refine (toBook_any _ ps _ hsm (hrW.later hB12)).mono ?_
      rintro e w13 ⟨v13, rfl, ho13, hb13⟩
      have s13 := hb13.size
      go_wp2_with fail
      refine (HIM.out _ _ ho13.rd).mono ?_
      rintro e w14 ⟨v14, rfl, ho14, hb14⟩
      have s14 := hb14.size
      obtain ⟨a14, cap14, rfl, -⟩ := ho14.rd.len
      have hbV := (Below.refl w14.heap.size w14).alloc (Nat.le_refl _) (.cells #[.slice a14 qs.length cap14] 25)
      have z14 : (w14.alloc (.cells #[.slice a14 qs.length cap14] 25)).cell? ⟨w14.heap.size, 0, none⟩ = some (.slice a14 qs.length cap14) := by simp [go_sem]
      have sV : (w14.alloc (.cells #[.slice a14 qs.length cap14] 25)).heap.size = w14.heap.size + 1 := by simp
      have hb12V := hb13.trans ((hb14.trans (hbV.mono s14)).mono s13)
      have F14 := Cs.below (⟨k1, k2, k3, k4⟩ : Cs w12 w.heap.size w3.heap.size w4.heap.size w5.heap.size (.slice a ps.length cap) (.slice a3 qs.length cap3) (.slice aX ps.length capX) (.slice a5 qs.length cap5)) hb12V (by omega)
      have hL14 := hL12.trans (hb12V.mono (by omega))
      have hB14 := hB12.trans (hb12V.mono (by omega))
      have hu514 := hu512.later hb12V
      have hu314 := hu3.low hL14
      have ho14V := ho14.rd.later hbV
      clear k1 k2 k3 k4
      obtain ⟨k1, k2, k3, k4⟩ := F14
      go_wp2_with fail
      generalize w14.alloc (.cells #[.slice a14 qs.length cap14] 25) = WV at *
      refine (eqBook_true _ _ qs _ ho14V hu314.ps.rd).mono ?_
      rintro e w15 ⟨rfl, hb15⟩
      have s15 := hb15.size
      have F15 := Cs.below (⟨k1, k2, k3, k4⟩ : Cs WV w.heap.size w3.heap.size w4.heap.size w5.heap.size (.slice a ps.length cap) (.slice a3 qs.length cap3) (.slice aX ps.length capX) (.slice a5 qs.length cap5)) hb15 (by omega)
      have hB15 := hB14.trans (hb15.mono (by omega))
      have hu515 := hu514.later hb15
      clear k1 k2 k3 k4
      obtain ⟨k1, k2, k3, k4⟩ := F15
      go_wp2_with fail
      refine (heldBook_any _ qs 1 _ (by omega) (by omega) hsq hu515.ps.rd).mono ?_
      rintro e w16 ⟨rfl, hb16⟩
      go_wp2
      go_ret
      exact ⟨rfl, hbW.trans ((hB15.trans (hb16.mono (by omega))).mono hbW.size)⟩
end Go.Proofs.Ytkknmjioihnpkaa
