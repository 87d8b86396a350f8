/- append of one integer to a slice of the call's own. -/
import Derived.Test.YtpmdjdlojbpcfaaChecked
import Derived.Test.YtpmdjdlojbpcfaaLib2
import Derived.Laws.AppendOwnNone
namespace Go.Proofs.Ytpmdjdlojbpcfaa
open Go.RowKit
set_option linter.unusedSimpArgs false
set_option linter.unusedVariables false

theorem Try_info_int : (Try.prog.info? 3).map (fun i => (i.zero, i.size, i.bytes)) = some (some (.int .i64 0), 1, 8) := by kernel_rfl

theorem append_int {w : World} {ops : Array Oper} {rest : List Oper} {o : Oper} {a : Act} {Q : Exit → Act → World → Prop} (hgd : o.guard = none) (s x : Operand)
    (ho : o.op = .call { callee := .builtin .append, args := #[s, x], argTypes := #[26, 26] })
    (B : Nat) (v : Value) (zs : List Int) (z : Int) (h : Nat) (hs : a.eval s = v) (hx : a.eval x = .slice (some ⟨h, 0, none⟩) 1 1)
    (hown : Own w B v zs) (hcell : w.cell? ⟨h, 0, none⟩ = some (.int .i64 z)) (hlen : zs.length ≤ 1099511627776) (hB : B ≤ w.heap.size)
    (hK : ∀ v' w', Own w' B v' (zs ++ [z]) → w.grownBy w' v.ownBlock → wpList Try.prog ops Q rest (a.put o.dst v') w') : wpList Try.prog ops Q (o :: rest) a w := by
  obtain ⟨i0, hi, hz0, hz1, hz2⟩ := info_parts Try_info_int
  refine wpList_append_own w hgd s x 26 ho B 3 i0 (.int .i64 0) 1 8 Try.underlying26 hi hz0 hz1 hz2 rfl (by decide) v zs.length (zs.map (Value.int .i64)) hs hown
    ⟨h, 0, none⟩ 1 1 [.int .i64 z] hx rfl ?_ ?_ (by unfold maxLen; omega) (by omega) hB ?_
  · intro j u hj
    match j, hj with
    | 0, hj => simp at hj; subst hj; simpa [Addr.add] using hcell
  · intro u hu; simp at hu; subst hu; rfl
  · intro v' w' h1 h2 _
    refine hK v' w' ?_ h2
    unfold Own
    simpa using h1

/-- The same of a whole slice that is read: 'append(out, xs...)'. -/
theorem append_ints {w : World} {ops : Array Oper} {rest : List Oper} {o : Oper} {a : Act} {Q : Exit → Act → World → Prop} (hgd : o.guard = none) (s x : Operand)
    (ho : o.op = .call { callee := .builtin .append, args := #[s, x], argTypes := #[26, 26] })
    (B : Nat) (v : Value) (zs : List Int) (ys : List Int) (u : Value) (hs : a.eval s = v) (hx : a.eval x = u)
    (hown : Own w B v zs) (hrd : Rd w u ys) (hlen : zs.length + ys.length ≤ 1099511627776) (hB : B ≤ w.heap.size)
    (hK : ∀ v' w', Own w' B v' (zs ++ ys) → w.grownBy w' v.ownBlock → wpList Try.prog ops Q rest (a.put o.dst v') w') : wpList Try.prog ops Q (o :: rest) a w := by
  obtain ⟨i0, hi, hz0, hz1, hz2⟩ := info_parts Try_info_int
  have main : ∀ (ad : Addr) (c : Nat), a.eval x = .slice (some ad) ys.length c → (∀ j u', (ys.map (Value.int .i64))[j]? = some u' → w.cell? (ad.add j) = some u') → wpList Try.prog ops Q (o :: rest) a w := by
    intro ad c hxa hcells
    refine wpList_append_own w hgd s x 26 ho B 3 i0 (.int .i64 0) 1 8 Try.underlying26 hi hz0 hz1 hz2 rfl (by decide) v zs.length (zs.map (Value.int .i64)) hs hown
      ad ys.length c (ys.map (Value.int .i64)) hxa (by simp) hcells (ints_oneCell _ _) (by unfold maxLen; omega) (by omega) hB ?_
    intro v' w' h1 h2 _
    refine hK v' w' ?_ h2
    unfold Own
    simpa using h1
  rcases hrd with ⟨rfl, ad, cap, rfl, hn⟩ | ⟨g, off, cap, rfl, hg, hm, hc⟩
  · cases ad with
    | none =>
      obtain rfl := hn rfl
      refine wpList_append_own_none hgd s x 26 ho B 3 i0 1 Try.underlying26 hi v zs.length (zs.map (Value.int .i64)) hs hown hx ?_
      exact hK v w (by simpa using hown) (World.grownBy.refl _ _)
    | some ad => exact main ad cap hx (by intro j u' h; simp at h)
  · refine main ⟨g, off, none⟩ cap hx ?_
    intro j u' h
    have hj : j < ys.length := by
      have := (List.getElem?_eq_some_iff.1 h).1
      simpa using this
    have ha : (⟨g, off, none⟩ : Addr).add j = ⟨g, off + j, none⟩ := by unfold Addr.add; split <;> simp_all
    rw [ha, hc j hj]
    rw [List.getElem?_map, List.getElem?_eq_getElem hj] at h
    simp at h
    subst h
    simp [hj]
/-- '[]int{}'. -/
theorem Own.empty (w : World) (B : Nat) (hB : B ≤ w.heap.size) : Own (w.alloc (.cells #[] 3)) B (.slice (some ⟨w.heap.size, 0, none⟩) 0 0) [] :=
  World.ownsRow_made w #[] 0 hB (by decide) rfl
end Go.Proofs.Ytpmdjdlojbpcfaa
