/- strings.Builder beside other rows of the call's own: its buffer lies at C or behind, and nothing else below C is written. -/
import Derived.Test.YtfmmkiijohnbfaaDoorBuild
namespace Go.Proofs.YtfmmkiijohnbfaaDoor
open Go.RowKit
set_option linter.unusedVariables false
set_option linter.unusedSimpArgs false

def BldC (w : World) (b C : Nat) (bs : List Value) : Prop := Bld w b b bs ∧ b < C ∧ ∀ v, w.cell? ⟨b, 1, none⟩ = some v → ∀ g, v.ownBlock = some g → C ≤ g
def FarB (b C : Nat) (w w' : World) : Prop := Below b w w' ∧ ∀ k, k < C → k ≠ b → w'.heap[k]? = w.heap[k]?
theorem FarB.refl (b C : Nat) (w : World) : FarB b C w w := ⟨Below.refl _ _, fun _ _ _ => rfl⟩
theorem FarB.trans {b C : Nat} {w w1 w2 : World} (h : FarB b C w w1) (k : FarB b C w1 w2) : FarB b C w w2 := ⟨h.1.trans k.1, fun j hj hn => (k.2 j hj hn).trans (h.2 j hj hn)⟩
theorem FarB.below {b C : Nat} {w w' : World} (h : Below w.heap.size w w') (hC : C ≤ w.heap.size) (hb : b ≤ w.heap.size) : FarB b C w w' := ⟨h.mono hb, fun j hj _ => h.block j (Nat.lt_of_lt_of_le hj hC)⟩
theorem FarB.size {b C : Nat} {w w' : World} (h : FarB b C w w') : w.heap.size ≤ w'.heap.size := h.1.size
theorem bldAt_later {w w' : World} {B b : Nat} {p : Value} {bs : List Value} (h : Lib.BuilderAtF 49 5 B b p bs w) (hb : Below w.heap.size w w') : Lib.BuilderAtF 49 5 B b p bs w' := by
  obtain ⟨hB, v, hcell, hown, hne⟩ := h
  have hlt : ∀ {k : Nat} {o : Obj}, w.heap[k]? = some o → w'.heap[k]? = some o := fun hk => by rw [hb.block _ (Array.getElem?_eq_some_iff.1 hk).1]; exact hk
  refine ⟨hB, v, hlt hcell, ⟨hown.1, ?_⟩, hne⟩
  rcases hown.2 with hn | ⟨g, cap, cur, fz, hv, hbg, hg, rest⟩
  · exact .inl hn
  · exact .inr ⟨g, cap, cur, fz, hv, hbg, hlt hg, rest⟩
theorem BldC.later {w w' : World} {b C : Nat} {bs : List Value} (h : BldC w b C bs) (hb : Below w.heap.size w w') : BldC w' b C bs := by
  obtain ⟨h1, h2, h3⟩ := h
  have hlt : b < w.heap.size := by
    rcases h1 with ⟨_, v, hc, -⟩ | ⟨_, v, hc, -⟩ <;> exact (Array.getElem?_eq_some_iff.1 hc).1
  refine ⟨h1.elim (fun x => .inl (bldAt_later x hb)) (fun x => .inr (bldAt_later x hb)), h2, ?_⟩
  rw [hb.cell (p := ⟨b, 1, none⟩) hlt]
  exact h3
theorem rowF_up {w : World} {B C : Nat} {e : TypeId} {k : Nat} {v : Value} {n : Nat} {xs : List Value} (h : w.ownsRowF B e k v n xs) (hv : ∀ g, v.ownBlock = some g → C ≤ g) : w.ownsRowF C e k v n xs := by
  refine ⟨h.1, ?_⟩
  rcases h.2 with hn | ⟨g, cap, cur, fz, e, hbg, rest⟩
  · exact .inl hn
  · exact .inr ⟨g, cap, cur, fz, e, hv g (by rw [e]; rfl), rest⟩
theorem copyCheck_far (b C : Nat) (bs : List Value) (w : World) (h : BldC w b C bs) :
    Calls Tryd.prog 44 #[.pointer (some ⟨b, 0, none⟩)] w fun e w' => e = .returned (.tuple #[]) ∧ Lib.BuilderAtF 49 5 b b (.pointer (some ⟨b, 0, none⟩)) bs w' ∧ FarB b C w w' ∧ ∀ v, w'.cell? ⟨b, 1, none⟩ = some v → ∀ g, v.ownBlock = some g → C ≤ g := by
  obtain ⟨h, hbC, hv⟩ := h
  rcases h with h | h
  · refine (copyCheck_fresh b w h.cell0 h.shape h.frozen0).mono ?_
    rintro e w' ⟨rfl, rfl⟩
    refine ⟨rfl, h.used _, ⟨(Below.refl b w).setCell (p := ⟨b, 0, none⟩) (Nat.le_refl _) _, fun k _ hk => Below.heap_setCell _ _ _ _ (fun e => hk (by simp [e]))⟩, ?_⟩
    intro v hx
    rw [show (w.setCell ⟨b, 0, none⟩ (.pointer (some ⟨b, 0, none⟩))).cell? ⟨b, 1, none⟩ = w.cell? ⟨b, 1, none⟩ by simp [go_sem]] at hx
    exact hv v hx
  · refine (copyCheck_used b w h.cell0).mono ?_
    rintro e w' ⟨rfl, rfl⟩
    exact ⟨rfl, h, FarB.refl _ _ _, hv⟩

set_option maxRecDepth 100000 in
theorem WriteString_far (b C : Nat) (bs : List Value) (s : ByteArray) (w : World) (h : BldC w b C bs) (hlen : bs.length + s.size ≤ 140737488355328) (hC : C ≤ w.heap.size) :
    Calls Tryd.prog 22 #[.pointer (some ⟨b, 0, none⟩), .string s] w fun e w' => e = .returned (.tuple #[.int .i64 s.size, .nilIface]) ∧ BldC w' b C (bs ++ Lib.strCells s) ∧ FarB b C w w' := by
  obtain ⟨i0, hi, hz0, hz1, hz2⟩ := info_parts Tryd_info_byte
  have hbC := h.2.1
  go_enter Tryd.func22, Tryd.ntmps22
  go_wp2_with (go_at_call 44; refine (copyCheck_far b C bs _ h).mono ?_)
  rintro e w1 ⟨rfl, h1, hf1, hv1⟩
  obtain ⟨hB, v, hbk, hown, hne⟩ := h1
  have hvg : ∀ g, v.ownBlock = some g → C ≤ g := hv1 v (by rw [Lib.cell_of_heap hbk]; rfl)
  have hown := rowF_up hown hvg
  obtain ⟨ao0, cap0, rfl⟩ : ∃ ao cap, v = .slice ao bs.length cap := by
    rcases hown.2 with ⟨hv, h0⟩ | ⟨g, cap, cur, fz, hv, _⟩
    · exact ⟨none, 0, by rw [hv, h0]⟩
    · exact ⟨_, _, hv⟩
  have c0 : w1.cell? ⟨b, 0, none⟩ = some (.pointer (some ⟨b, 0, none⟩)) := by rw [Lib.cell_of_heap hbk]; rfl
  have c1 : w1.cell? ⟨b, 1, none⟩ = some (.slice ao0 bs.length cap0) := by rw [Lib.cell_of_heap hbk]; rfl
  have hs1 := hf1.size
  clear hv1
  go_wp2_with (at_builtin; refine Lib.wpList_append_own_stringF _ rfl _ _ 47 9 rfl C 5 i0 Tryd.underlying47 Tryd.underlying9 hi hz0 hz1 hz2 _ _ _ rfl hown s rfl ?c3 ?c4 ?c5 ?_)
  case c3 => unfold maxLen; omega
  case c4 => omega
  case c5 => omega
  intro v' w2 hown' hgrow _
  have hlt : b < w1.heap.size := by
    rcases Nat.lt_or_ge b w1.heap.size with h' | h'
    · exact h'
    · simp [Array.getElem?_eq_none h'] at hbk
  have hb2 : w2.heap[b]? = some (.cells #[.pointer (some ⟨b, 0, none⟩), .slice ao0 bs.length cap0] 49 (0, 0)) := by
    rw [hgrow.block b hlt (fun e => hne e.symm)]
    exact hbk
  have d0 : w2.cell? ⟨b, 0, none⟩ = some (.pointer (some ⟨b, 0, none⟩)) := by rw [Lib.cell_of_heap hb2]; rfl
  have d1 : w2.cell? ⟨b, 1, none⟩ = some (.slice ao0 bs.length cap0) := by rw [Lib.cell_of_heap hb2]; rfl
  have f1 : w2.frozen? ⟨b, 1, none⟩ = false := Lib.frozen_of_heap hb2 1
  have hge : ∀ g, v'.ownBlock = some g → C ≤ g := fun g hg => by
    rcases hown'.2 with ⟨hv, _⟩ | ⟨g', cap, cur, fz, hv, hbg, _⟩
    · rw [hv] at hg; cases hg
    · rw [hv] at hg; cases hg; exact hbg
  obtain ⟨ao, n', cap, rfl⟩ : ∃ ao n' cap, v' = .slice ao n' cap := by
    rcases hown'.2 with ⟨hv, _⟩ | ⟨g, cap, cur, fz, hv, _⟩
    · exact ⟨_, _, _, hv⟩
    · exact ⟨_, _, _, hv⟩
  have hownb := rowF_up (C := b) hown' (fun g hg => Nat.le_trans (Nat.le_of_lt hbC) (hge g hg))
  have hfin : BldC (w2.setCell ⟨b, 1, none⟩ (.slice ao n' cap)) b C (bs ++ Lib.strCells s) := by
    refine ⟨.inr (Lib.BuilderAtF.put (T := 49) (e := 5) hB hb2 (bs' := bs ++ Lib.strCells s) (by simpa [Lib.strCells_length] using hownb) (by decide)), hbC, fun u hu => ?_⟩
    rw [show (w2.setCell ⟨b, 1, none⟩ (.slice ao n' cap)).cell? ⟨b, 1, none⟩ = some (.slice ao n' cap) from World.cell?_setCell_same' _ _ _ (by rw [d1]; rfl)] at hu
    cases hu
    exact hge
  have hfar : FarB b C w (w2.setCell ⟨b, 1, none⟩ (.slice ao n' cap)) := by
    refine hf1.trans ⟨((Below.refl b w1).grown hgrow (Nat.le_of_lt hlt) (fun k hk => Nat.le_trans (Nat.le_of_lt hbC) (hvg k hk))).setCell (p := ⟨b, 1, none⟩) (Nat.le_refl _) _, fun k hk hkb => ?_⟩
    rw [Below.heap_setCell _ _ _ _ (fun e => hkb (by simp [e]))]
    exact hgrow.block k (by omega) (fun e => absurd (hvg k e.symm) (by omega))
  clear hown' hownb
  go_wp2
  go_ret2
  exact ⟨rfl, hfin, hfar⟩
end Go.Proofs.YtfmmkiijohnbfaaDoor
