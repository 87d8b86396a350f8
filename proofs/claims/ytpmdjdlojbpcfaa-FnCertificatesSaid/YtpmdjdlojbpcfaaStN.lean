/- Chapter 8: thin covers: the plain part; the model. -/
import Derived.Test.YtpmdjdlojbpcfaaStM
namespace Go.Proofs.Ytpmdjdlojbpcfaa
open Go.RowKit
set_option linter.unusedSimpArgs false
set_option linter.unusedVariables false

def lessAt (o : List Int) (x : Nat) : List Int := o.take x ++ o.drop (x + 1)
theorem split_at {o : List Int} {x : Nat} (h : x < o.length) : o = o.take x ++ (o[x]?.getD 0) :: o.drop (x + 1) := by
  have : o[x]?.getD 0 = o[x] := by simp [h]
  rw [this, List.getElem_cons_drop, List.take_append_drop]
theorem lessAt_ris {o : List Int} {lo hi : Int} (x : Nat) (h : Ris o lo hi) : Ris (lessAt o x) lo hi := by
  have hs : (lessAt o x).Sublist o := by
    unfold lessAt
    rw [← List.eraseIdx_eq_take_drop_succ]
    exact List.eraseIdx_sublist ..
  exact ⟨h.1.sublist hs, fun y hy => h.2 y (hs.subset hy)⟩
theorem lessAt_mem {o : List Int} {lo hi : Int} {x : Nat} (h : Ris o lo hi) (hx : x < o.length) (y : Int) : y ∈ lessAt o x ↔ y ∈ o ∧ y ≠ o[x]?.getD 0 := by
  have e := split_at hx
  obtain ⟨h1, h2, h3⟩ := List.pairwise_append.1 (e ▸ h.1 : (o.take x ++ (o[x]?.getD 0) :: o.drop (x + 1)).Pairwise (· < ·))
  have h4 := (List.pairwise_cons.1 h2).1
  generalize o[x]?.getD 0 = z at *
  conv => rhs; rw [e]
  unfold lessAt
  simp only [List.mem_append, List.mem_cons]
  constructor
  · rintro (hy | hy)
    · have := h3 y hy z (by simp); exact ⟨.inl hy, by omega⟩
    · have := h4 y hy; exact ⟨.inr (.inr hy), by omega⟩
  · rintro ⟨hy | rfl | hy, hne⟩
    · exact .inl hy
    · exact absurd rfl hne
    · exact .inr hy
theorem lessAt_set {o : List Int} {m x z : Nat} (h : Ris o 0 m) (hm : m ≤ 12) (hx : x < o.length) (hz : o[x]?.getD 0 = z) : (setN o &&& (18446744073709551615 - setN [(z : Int)])) = setN (lessAt o x) := by
  have hs : setN [(z : Int)] < 65536 := setN_lt16 (by intro y hy; simp at hy; subst hy; have := h.get x hx; omega)
  refine Nat.eq_of_testBit_eq fun j => ?_
  rw [Nat.testBit_and, setN_mem h, setN_mem (lessAt_ris x h)]
  by_cases hj : j < 64
  · rw [show 18446744073709551615 - setN [(z : Int)] = 2 ^ 64 - (setN [(z : Int)] + 1) by omega, Nat.testBit_two_pow_sub_succ (by omega) j, setN_bit]
    rw [Bool.eq_iff_iff]
    simp only [hj, Bool.and_eq_true, decide_eq_true_eq, lessAt_mem h hx, hz]
    simp
    omega
  · have h1 : ¬ ((j : Int) ∈ o) := fun hm' => by have := h.2 _ hm'; omega
    have h2 : ¬ ((j : Int) ∈ lessAt o x) := fun hm' => h1 ((lessAt_mem h hx _).1 hm').1
    simp [h1, h2]
def thStep (L : List (List Int)) (n : Nat) (o : List Int) (x : Nat) : List Int := if covB L n (lessAt o x) 1 then lessAt o x else o
def thT (L : List (List Int)) (n : Nat) (zs : List Int) : Nat → List Int
  | 0 => zs
  | k + 1 => thStep L n (thT L n zs k) (zs.length - 1 - k)
/-- What holds of the list after k steps. -/
structure ThI (m : Nat) (zs : List Int) (k : Nat) (o : List Int) : Prop where
  ris : Ris o 0 m
  pre : o.take (zs.length - k) = zs.take (zs.length - k)
theorem ThI.len {m k : Nat} {zs o : List Int} (h : ThI m zs k o) : zs.length - k ≤ o.length := by
  have := congrArg List.length h.pre
  simp only [List.length_take] at this
  omega
theorem ThI.at_ {m k : Nat} {zs o : List Int} (h : ThI m zs k o) (hk : k < zs.length) : zs.length - 1 - k < o.length ∧ o[zs.length - 1 - k]?.getD 0 = zs[zs.length - 1 - k]?.getD 0 := by
  have hl := h.len
  refine ⟨by omega, ?_⟩
  have e := congrArg (fun l : List Int => l[zs.length - 1 - k]?.getD 0) h.pre
  simp only [List.getElem?_take, if_pos (show zs.length - 1 - k < zs.length - k by omega)] at e
  exact e
theorem ThI.step {m k : Nat} {zs o : List Int} (h : ThI m zs k o) (hk : k < zs.length) : ThI m zs (k + 1) (lessAt o (zs.length - 1 - k)) ∧ ThI m zs (k + 1) o := by
  have hl := h.len
  have e : o.take (zs.length - (k + 1)) = zs.take (zs.length - (k + 1)) := by
    have := congrArg (List.take (zs.length - (k + 1))) h.pre
    rw [List.take_take, List.take_take, Nat.min_eq_left (by omega)] at this
    exact this
  refine ⟨⟨lessAt_ris _ h.ris, ?_⟩, h.ris, e⟩
  unfold lessAt
  rw [show zs.length - (k + 1) = zs.length - 1 - k by omega] at e ⊢
  rw [List.take_append_of_le_length (by simp; omega), List.take_take, Nat.min_self]
  exact e
theorem thT_ok {L : List (List Int)} {n m : Nat} {zs : List Int} (h : Ris zs 0 m) : ∀ k, k ≤ zs.length → ThI m zs k (thT L n zs k) := by
  intro k
  induction k with
  | zero => intro _; exact ⟨h, rfl⟩
  | succ k ih =>
    intro hk
    have h1 := (ih (by omega)).step (by omega)
    unfold thT thStep
    split
    · exact h1.1
    · exact h1.2
def tcA (L : List (List Int)) (n : Int) (zs : List Int) : Bool := askB L n zs && covB L n.toNat zs 1
def tcL (L : List (List Int)) (n : Int) (zs : List Int) : List Int := if tcA L n zs then thT L n.toNat zs zs.length else []
theorem tcL_no {L : List (List Int)} {n : Int} {zs : List Int} (h : tcA L n zs = false) : tcL L n zs = [] := by simp [tcL, h]
theorem tcL_yes {L : List (List Int)} {n : Int} {zs : List Int} (h : tcA L n zs = true) : tcL L n zs = thT L n.toNat zs zs.length := by simp [tcL, h]
theorem tcL_len (L : List (List Int)) (n : Int) (zs : List Int) : (tcL L n zs).length ≤ 12 := by
  cases h : tcA L n zs with
  | false => rw [tcL_no h]; simp
  | true =>
    rw [tcL_yes h]
    have ha : askB L n zs = true := by simp [tcA] at h; exact h.1
    obtain ⟨⟨ok, -⟩, hz⟩ := askB_iff.1 ha
    have := (thT_ok (L := L) (n := n.toNat) hz zs.length (Nat.le_refl _)).ris.len (by omega)
    have := ok.m2
    omega
def TcPost (L : List (List Int)) (n : Int) (zs : List Int) (w : World) (e : Ending) (w' : World) : Prop :=
  ∃ v, e = .returned (.tuple #[v, .bool (tcA L n zs)]) ∧ Own w' w.heap.size v (tcL L n zs) ∧ Below w.heap.size w w'
theorem TcPost.no {L : List (List Int)} {n : Int} {zs : List Int} {w w' : World} (h : tcA L n zs = false) (hb : Below w.heap.size w w') : TcPost L n zs w (.returned (.tuple #[.slice none 0 0, .bool false])) w' :=
  ⟨_, by rw [h], by rw [tcL_no h]; exact Own.nil _ _, hb⟩
theorem TcPost.yes {L : List (List Int)} {n : Int} {zs : List Int} {w w' : World} {v : Value} (h : tcA L n zs = true) (ho : Own w' w.heap.size v (thT L n.toNat zs zs.length)) (hb : Below w.heap.size w w') : TcPost L n zs w (.returned (.tuple #[v, .bool true])) w' :=
  ⟨_, by rw [h], by rw [tcL_yes h]; exact ho, hb⟩
/-- The counter of the loop that goes down. -/
def dnS (v : Value) (c : Nat) : Prop := (c = 0 ∧ v = .int .i64 (-1)) ∨ ∃ i : Nat, c = i + 1 ∧ v = .int .i64 i
theorem dnS_next (i : Nat) : dnS (.int .i64 ((i : Int) - 1)) i := by
  cases i with
  | zero => exact .inl ⟨rfl, rfl⟩
  | succ i => exact .inr ⟨i, rfl, by congr 1; omega⟩
theorem OwnRd.drop {w : World} {B g y c x : Nat} {o : List Int} (h : Own w B (.slice (some ⟨g, 0, none⟩) y c) o) (hx : x ≤ y) (hc : ¬ c = x) : Rd w (.slice (some ⟨g, 0 + x, none⟩) (y - x) (c - x)) (o.drop x) := (h.rdc.drop2 hx hc).rd
theorem OwnRd.take {w : World} {B g y c x : Nat} {o : List Int} (h : Own w B (.slice (some ⟨g, 0, none⟩) y c) o) (hx : x ≤ y) : Rd w (.slice (some ⟨g, 0, none⟩) x c) (o.take x) := (h.rdc.take x hx).rd
end Go.Proofs.Ytpmdjdlojbpcfaa
