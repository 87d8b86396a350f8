/- Chapter 7: the laws' helpers on sights. -/
import Derived.Test.YtkdmjeonlghnjaaSi0
import Derived.Test.YtkdmjeonlghnjaaReGround
import Derived.Test.YtkdmjeonlghnjaaIv
namespace Go.Proofs.Ytkdmjeonlghnjaa
open Go.RowKit
set_option linter.unusedSimpArgs false
set_option linter.unusedVariables false

/-- It owns, among the blocks from B up to C, the Grounds. -/
def OwnG (w : World) (B C : Nat) (c : Value) (ts : List T2) : Prop := OwnR 72 c2 2 w B c ts ∧ ∀ k, c.ownBlock = some k → k < C
theorem OwnG.rd {w : World} {B C : Nat} {c : Value} {ts : List T2} (h : OwnG w B C c ts) : RdR c2 2 w c ts := h.1.rd
theorem OwnG.later {w w' : World} {B C : Nat} {c : Value} {ts : List T2} (h : OwnG w B C c ts) (hb : Below w.heap.size w w') : OwnG w' B C c ts := ⟨h.1.later hb, h.2⟩
theorem OwnG.kept {w w' : World} {B C B' C' : Nat} {c : Value} {ts : List T2} (h : OwnG w B C c ts) (hk : Kp B' C' w w') (hx : C ≤ B' ∨ C' ≤ B) : OwnG w' B C c ts :=
  ⟨row_at h.1 fun k hk' => hk.block k (h.1.lt k hk').2 (by have := (h.1.lt k hk').1; have := h.2 k hk'; omega), h.2⟩
theorem OwnG.nil (w : World) (B C : Nat) : OwnG w B C (.slice none 0 0) [] := ⟨OwnR.nil _ _, fun k hk => by cases hk⟩
theorem OwnR.setLow {T : Type} {cl : T → Nat → Value} {k : Nat} {e : TypeId} {w : World} {B : Nat} {v : Value} {ts : List T} (h : OwnR e cl k w B v ts) {b o : Nat} {x : Value} (hb : b < B) : OwnR e cl k (w.setCell ⟨b, o, none⟩ x) B v ts :=
  row_at h fun j hj => Below.heap_setCell _ _ _ _ (by show j ≠ b; have := (h.lt j hj).1; omega)

theorem szSight_any (D A B : Int) (c : Value) (ts : List T2) (left : Int) (w : World) (h0 : 0 ≤ left) (h1 : left ≤ 1048576) (hr : RdR c2 2 w c ts) :
    Calls Try.prog 42 #[.agg #[.int .i64 D, .int .i64 A, .int .i64 B, c], .int .i64 left] w fun e w' => Below w.heap.size w w' ∧ ∃ r : Int, e = .returned (.int .i64 r) ∧ (r = -1 ∨ (0 ≤ r ∧ ts.length ≤ 1048576)) := by
  have hB := (Below.refl w.heap.size w).alloc (Nat.le_refl _) (.cells #[.int .i64 D, .int .i64 A, .int .i64 B, c] 54)
  have hr1 := hr.later hB
  clear hr
  go_enter Try.func42, Try.ntmps42
  go_wp2_with fail
  refine (szGroundS_any _ ts _ _ h0 h1 hr1).mono ?_
  rintro e w1 ⟨rfl, r, rfl, hr'⟩
  rcases hr' with rfl | ⟨r0, hr0⟩
  · go_wp2
    go_ret
    exact ⟨hB, _, rfl, .inl rfl⟩
  · have HR0 := Lib.hid hr0
    clear hr0
    go_wp2
    go_ret
    exact ⟨hB, _, rfl, .inr ⟨r0, by have := HR0.out; omega⟩⟩

set_option maxHeartbeats 800000 in
theorem toSight_any (D A B : Int) (c : Value) (ts : List T2) (w : World) (hz : ts.length ≤ 1048576) (hr : RdR c2 2 w c ts) :
    Calls Try.prog 44 #[.agg #[.int .i64 D, .int .i64 A, .int .i64 B, c]] w fun e w' => ∃ v, e = .returned (.agg #[.int .i64 D, .int .i64 A, .int .i64 B, v]) ∧ OwnG w' w.heap.size w'.heap.size v ts ∧ Below w.heap.size w w' := by
  go_enter Try.func44, Try.ntmps44
  have hB : Below w.heap.size w (((w.alloc (.cells #[.int .i64 D, .int .i64 A, .int .i64 B, c] 54)).alloc (.cells #[.int .i64 0, .int .i64 0, .int .i64 0, .slice none 0 0] 25)).alloc (.cells #[.int .i64 D, .int .i64 A, .int .i64 B, .slice none 0 0] 25)) := (((Below.refl _ _).alloc (Nat.le_refl _) _).alloc (by simp) _).alloc (by simp; omega) _
  have hr1 := hr.later hB
  go_wp2_with fail
  refine (toGroundS_any _ ts _ hz hr1).mono ?_
  rintro e w1 ⟨v0, rfl, ho0, hb0⟩
  obtain ⟨ad, cap, rfl, -⟩ := ho0.rd.len
  have b0 := hb0.cell (p := ⟨w.heap.size + 1 + 1, 0, none⟩) (by simp)
  have f0 := hb0.frozen (p := ⟨w.heap.size + 1 + 1, 0, none⟩) (by simp)
  have d0 := hb0.cell (p := ⟨w.heap.size + 1, 0, none⟩) (by simp)
  have e0 := hb0.frozen (p := ⟨w.heap.size + 1, 0, none⟩) (by simp)
  have b1 := hb0.cell (p := ⟨w.heap.size + 1 + 1, 1, none⟩) (by simp)
  have f1 := hb0.frozen (p := ⟨w.heap.size + 1 + 1, 1, none⟩) (by simp)
  have d1 := hb0.cell (p := ⟨w.heap.size + 1, 1, none⟩) (by simp)
  have e1 := hb0.frozen (p := ⟨w.heap.size + 1, 1, none⟩) (by simp)
  have b2 := hb0.cell (p := ⟨w.heap.size + 1 + 1, 2, none⟩) (by simp)
  have f2 := hb0.frozen (p := ⟨w.heap.size + 1 + 1, 2, none⟩) (by simp)
  have d2 := hb0.cell (p := ⟨w.heap.size + 1, 2, none⟩) (by simp)
  have e2 := hb0.frozen (p := ⟨w.heap.size + 1, 2, none⟩) (by simp)
  have b3 := hb0.cell (p := ⟨w.heap.size + 1 + 1, 3, none⟩) (by simp)
  have f3 := hb0.frozen (p := ⟨w.heap.size + 1 + 1, 3, none⟩) (by simp)
  have d3 := hb0.cell (p := ⟨w.heap.size + 1, 3, none⟩) (by simp)
  have e3 := hb0.frozen (p := ⟨w.heap.size + 1, 3, none⟩) (by simp)
  have hz := hb0.size
  simp [go_sem] at b0 f0 d0 e0 b1 f1 d1 e1 b2 f2 d2 e2 b3 f3 d3 e3 hz
  have hB1 := (hB.trans (hb0.mono hB.size)).setCell (p := ⟨w.heap.size + 1 + 1, 3, none⟩) (by show w.heap.size ≤ w.heap.size + 1 + 1; omega) (.slice ad ts.length cap)
  have ho1 := ho0.setLow (b := w.heap.size + 1 + 1) (o := 3) (x := .slice ad ts.length cap) (by simp)
  go_wp2
  refine bodyPost_ret (v := .agg #[.int .i64 D, .int .i64 A, .int .i64 B, .slice ad ts.length cap]) (by simp [results, Try.results44, go_sem, *]) rfl ⟨_, rfl, ?_, ?_⟩
  · have p1 := (((ho1.setLow (b := w.heap.size + 1) (o := 0) (x := .int .i64 D) (by simp <;> omega)).setLow (b := w.heap.size + 1) (o := 1) (x := .int .i64 A) (by simp <;> omega)).setLow (b := w.heap.size + 1) (o := 2) (x := .int .i64 B) (by simp <;> omega)).setLow (b := w.heap.size + 1) (o := 3) (x := .slice ad ts.length cap) (by simp <;> omega)
    exact ⟨p1.base (by simp; omega), fun k hk => (p1.lt k hk).2⟩
  · exact (((hB1.setCell (p := ⟨w.heap.size + 1, 0, none⟩) (by show w.heap.size ≤ w.heap.size + 1; omega) _).setCell (p := ⟨w.heap.size + 1, 1, none⟩) (by show w.heap.size ≤ w.heap.size + 1; omega) _).setCell (p := ⟨w.heap.size + 1, 2, none⟩) (by show w.heap.size ≤ w.heap.size + 1; omega) _).setCell (p := ⟨w.heap.size + 1, 3, none⟩) (by show w.heap.size ≤ w.heap.size + 1; omega) _

theorem eqSight_true (D A B : Int) (c d : Value) (ts : List T2) (w : World) (h1 : RdR c2 2 w c ts) (h2 : RdR c2 2 w d ts) :
    Calls Try.prog 45 #[.agg #[.int .i64 D, .int .i64 A, .int .i64 B, c], .agg #[.int .i64 D, .int .i64 A, .int .i64 B, d]] w fun e w' => e = .returned (.bool true) ∧ Below w.heap.size w w' := by
  have hB := ((Below.refl w.heap.size w).alloc (Nat.le_refl _) (.cells #[.int .i64 D, .int .i64 A, .int .i64 B, c] 25)).alloc (by simp) (.cells #[.int .i64 D, .int .i64 A, .int .i64 B, d] 25)
  have h1' := h1.later hB
  have h2' := h2.later hB
  clear h1 h2
  go_enter Try.func45, Try.ntmps45
  go_wp2_with fail
  refine (eqGroundS_true _ _ ts _ h1' h2').mono ?_
  rintro e w1 ⟨rfl, hb1⟩
  have hB1 := hB.trans (hb1.mono hB.size)
  go_wp2
  go_ret
  exact ⟨rfl, hB1⟩

theorem markSight_any (D A B : Int) (lo hi : Nat) (c : Value) (ts : List T2) (k0 : Int) (w : World) (h0 : 0 ≤ k0) (h1 : k0 ≤ 1048577) (hz0 : ts.length ≤ 1048576) (hC : hi ≤ w.heap.size) (ho : OwnG w lo hi c ts) :
    Calls Try.prog 47 #[.agg #[.int .i64 D, .int .i64 A, .int .i64 B, c], .int .i64 k0] w fun e w' => e = .returned (.int .i64 (k0 + 2 * ts.length)) ∧ OwnG w' lo hi c (markR2 k0 ts.length) ∧ Kp lo hi w w' := by
  have hB := (Below.refl w.heap.size w).alloc (Nat.le_refl _) (.cells #[.int .i64 D, .int .i64 A, .int .i64 B, c] 25)
  have ho1 := ho.later hB
  clear ho
  go_enter Try.func47, Try.ntmps47
  go_wp2_with fail
  refine (markGroundS_any lo _ ts _ _ h0 (by omega) hz0 ho1.1).mono ?_
  rintro e w1 ⟨rfl, hm0, hg0⟩
  have hk0 : Kp lo hi _ _ := Kp.of_grown hg0 (fun k hk => ⟨(ho1.1.lt k hk).1, ho1.2 k hk⟩)
  have hf0 := ho1.2
  go_wp2
  go_ret
  exact ⟨rfl, ⟨hm0, hf0⟩, (Kp.of_below hB).trans hk0⟩

theorem heldSight_any (D A B : Int) (c : Value) (n : Nat) (k0 : Int) (w : World) (h0 : 0 ≤ k0) (h1 : k0 ≤ 1048577) (hz0 : n ≤ 1048576) (hr : RdR c2 2 w c (markR2 k0 n)) :
    Calls Try.prog 50 #[.agg #[.int .i64 D, .int .i64 A, .int .i64 B, c], .int .i64 k0] w fun e w' => e = .returned (.int .i64 (k0 + 2 * n)) ∧ Below w.heap.size w w' := by
  have hB := (Below.refl w.heap.size w).alloc (Nat.le_refl _) (.cells #[.int .i64 D, .int .i64 A, .int .i64 B, c] 25)
  have hr1 := hr.later hB
  clear hr
  have hk0t : 0 ≤ k0 + 2 * (n : Int) := by omega
  go_enter Try.func50, Try.ntmps50
  go_wp2_with fail
  refine (heldGroundS_any _ n _ _ h0 (by omega) hz0 hr1).mono ?_
  rintro e w1 ⟨rfl, rfl⟩
  go_wp2
  go_ret
  exact ⟨rfl, hB⟩
end Go.Proofs.Ytkdmjeonlghnjaa
