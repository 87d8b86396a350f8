
/- Slices of records: structs of k one-cell fields, read as lists. No program in sight. -/
import Derived.Test.YtpmdjdlojbpcfaaLib2
import Derived.Test.YtpmdjdlojbpcfaaIv
namespace Go.Proofs.Ytpmdjdlojbpcfaa
open Go.RowKit
set_option linter.unusedSimpArgs false
set_option linter.unusedVariables false

section
variable {T : Type}
/-- The cells of a list of records: cl t f is field f of t. -/
def flatR (cl : T → Nat → Value) (k : Nat) (ts : List T) : List Value := ts.flatMap fun t => (List.range k).map (cl t)
theorem flatR_cons (cl : T → Nat → Value) (k : Nat) (t : T) (ts : List T) : flatR cl k (t :: ts) = (List.range k).map (cl t) ++ flatR cl k ts := rfl
theorem flatR_append (cl : T → Nat → Value) (k : Nat) (ts us : List T) : flatR cl k (ts ++ us) = flatR cl k ts ++ flatR cl k us := by simp [flatR]
theorem flatR_len (cl : T → Nat → Value) (k : Nat) (ts : List T) : (flatR cl k ts).length = ts.length * k := by
  induction ts with
  | nil => simp [flatR]
  | cons t ts ih => rw [flatR_cons, List.length_append, ih, List.length_cons, Nat.succ_mul]; simp; omega
variable {cl : T → Nat → Value} {k : Nat} {e : TypeId}
/-- v owns, among the blocks from B on, the records ts, elements of type e. -/
def OwnR (e : TypeId) (cl : T → Nat → Value) (k : Nat) (w : World) (B : Nat) (v : Value) (ts : List T) : Prop := w.ownsRow B e k v ts.length (flatR cl k ts)
theorem OwnR.nil (w : World) (B : Nat) : OwnR e cl k w B (.slice none 0 0) [] := World.ownsRow_nil _ _ _ _
theorem OwnR.kept {w w' : World} {B : Nat} {v : Value} {ts : List T} (h : OwnR e cl k w B v ts) {row : Option Nat} (hg : w.grownBy w' row) (hne : v.ownBlock = none ∨ v.ownBlock ≠ row) : OwnR e cl k w' B v ts := World.ownsRow.kept h hg hne
theorem OwnR.lt {w : World} {B : Nat} {v : Value} {ts : List T} (h : OwnR e cl k w B v ts) : ∀ b, v.ownBlock = some b → B ≤ b ∧ b < w.heap.size := World.ownsRow.lt h
theorem OwnR.alloc {w : World} {B : Nat} {v : Value} {ts : List T} (h : OwnR e cl k w B v ts) (o : Obj) : OwnR e cl k (w.alloc o) B v ts := World.ownsRow.alloc h o
theorem OwnR.base {w : World} {B B' : Nat} {v : Value} {ts : List T} (h : OwnR e cl k w B v ts) (hB : B' ≤ B) : OwnR e cl k w B' v ts := row_down h hB
theorem OwnR.below {w w' : World} {B C : Nat} {v : Value} {ts : List T} (h : OwnR e cl k w B v ts) (hb : Below C w w') (hC : ∀ b, v.ownBlock = some b → b < C) : OwnR e cl k w' B v ts := row_at h fun b hk => hb.block b (hC b hk)
theorem OwnR.later {w w' : World} {B : Nat} {v : Value} {ts : List T} (h : OwnR e cl k w B v ts) (hb : Below w.heap.size w w') : OwnR e cl k w' B v ts := h.below hb fun b hk => (h.lt b hk).2
theorem OwnR.drewN {w : World} {B : Nat} {v : Value} {ts : List T} (h : OwnR e cl k w B v ts) (n : Nat) : OwnR e cl k (w.drewN n) B v ts := h.later (below_drewN (Below.refl _ _) n)
theorem OwnR.cases {w : World} {B : Nat} {v : Value} {ts : List T} (h : OwnR e cl k w B v ts) : (v = .slice none 0 0 ∧ ts = []) ∨ ∃ g cap, v = .slice (some ⟨g, 0, none⟩) ts.length cap ∧ B ≤ g ∧ g < w.heap.size ∧ ts.length ≤ cap ∧ cap ≤ maxLen := by
  obtain ⟨h1, h2⟩ := h
  rcases h2 with ⟨h2, h3⟩ | ⟨g, cap, cur, hv, hg, hh, hc, hm, r⟩
  · exact .inl ⟨h2, List.eq_nil_of_length_eq_zero h3⟩
  · exact .inr ⟨g, cap, hv, hg, (Array.getElem?_eq_some_iff.1 hh).1, hc, hm⟩
theorem OwnR.nonnil {w : World} {B : Nat} {v : Value} {ts : List T} (h : OwnR e cl k w B v ts) (n : Nat) (hn : ts.length = n + 1) : ∃ g cap, v = .slice (.some ⟨g, 0, none⟩) (n + 1) cap ∧ B ≤ g ∧ g < w.heap.size := by
  rcases h.cases with ⟨-, rfl⟩ | ⟨g, cap, hv, hB, hg, -⟩
  · simp at hn
  · exact ⟨g, cap, by rw [← hn]; exact hv, hB, hg⟩
theorem OwnR.form {w : World} {B g n cap : Nat} {ts : List T} (h : OwnR e cl k w B (.slice (some ⟨g, 0, none⟩) n cap) ts) : n = ts.length ∧ B ≤ g ∧ g < w.heap.size := by
  rcases h.cases with ⟨hv, -⟩ | ⟨g', cap', hv, hB, hg, -⟩
  · cases hv
  · simp only [Value.slice.injEq, Option.some.injEq, Addr.mk.injEq, and_true] at hv
    obtain ⟨rfl, hn, -⟩ := hv
    exact ⟨hn, hB, hg⟩
theorem OwnR.apart {w w' : World} {B C : Nat} {v v' : Value} {ts ts' : List T} (h : OwnR e cl k w B v ts) (hC : w.heap.size ≤ C) (h' : OwnR e cl k w' C v' ts') : v.ownBlock = none ∨ v.ownBlock ≠ v'.ownBlock := by
  cases hv : v.ownBlock with
  | none => exact .inl rfl
  | some b =>
    refine .inr fun e => ?_
    have h1 := (h.lt b hv).2
    have h2 := (h'.lt b e.symm).1
    omega
theorem OwnR.frozen {w : World} {B g n cap : Nat} {ts : List T} (h : OwnR e cl k w B (.slice (some ⟨g, 0, none⟩) n cap) ts) (j : Nat) : w.frozen? ⟨g, j, none⟩ = false := by
  have hn := h.form.1
  subst hn
  exact World.ownsRow.frozenAt h j
end

section
variable {T : Type} [Inhabited T]

/-- Element i of a list of records. -/
def rAt (ts : List T) (i : Nat) : T := (ts[i]?).getD default
theorem rAt_eq {ts : List T} {i : Nat} (h : i < ts.length) : rAt ts i = ts[i] := by simp [rAt, h]
theorem rAt_mem {ts : List T} {i : Nat} (h : i < ts.length) : rAt ts i ∈ ts := by rw [rAt_eq h]; exact List.getElem_mem h
theorem mem_rAt {ts : List T} {t : T} (h : t ∈ ts) : ∃ i, i < ts.length ∧ rAt ts i = t := by
  obtain ⟨i, hi, rfl⟩ := List.mem_iff_getElem.1 h
  exact ⟨i, hi, rAt_eq hi⟩
theorem rAt_append (ts us : List T) (i : Nat) : rAt (ts ++ us) i = if i < ts.length then rAt ts i else rAt us (i - ts.length) := by
  unfold rAt
  rw [List.getElem?_append]
  split <;> rfl
theorem rAt_take (ts : List T) {n i : Nat} (h : i < n) : rAt (ts.take n) i = rAt ts i := by
  unfold rAt; rw [List.getElem?_take, if_pos h]
theorem rAt_drop (ts : List T) (n i : Nat) : rAt (ts.drop n) i = rAt ts (n + i) := by
  unfold rAt; rw [List.getElem?_drop]
theorem rAt_set {ts : List T} {k i : Nat} (hk : k < ts.length) (t : T) : rAt (ts.set k t) i = if i = k then t else rAt ts i := by
  unfold rAt
  rw [List.getElem?_set]
  by_cases h : k = i
  · subst h; simp [hk]
  · rw [if_neg h, if_neg (fun e => h e.symm)]
theorem rAt_ext {ts us : List T} (hl : ts.length = us.length) (h : ∀ i, i < ts.length → rAt ts i = rAt us i) : ts = us := by
  apply List.ext_getElem hl
  intro i h1 h2
  have := h i h1
  rwa [rAt_eq h1, rAt_eq h2] at this
theorem take_rAt {ts : List T} {k : Nat} (h : k < ts.length) : ts.take (k + 1) = ts.take k ++ [rAt ts k] := by
  rw [List.take_succ_eq_append_getElem h, rAt_eq h]
theorem drop_rAt {ts : List T} {k : Nat} (h : k < ts.length) : ts.drop k = rAt ts k :: ts.drop (k + 1) := by
  rw [List.drop_eq_getElem_cons h, rAt_eq h]

theorem flatR_get (cl : T → Nat → Value) (k : Nat) (ts : List T) (i f : Nat) (hi : i < ts.length) (hf : f < k) : (flatR cl k ts)[i * k + f]? = some (cl (rAt ts i) f) := by
  induction ts generalizing i with
  | nil => simp at hi
  | cons t ts ih =>
    rw [flatR_cons, List.getElem?_append]
    cases i with
    | zero => rw [if_pos (by simp; omega)]; simp [hf, rAt]
    | succ i =>
      rw [Nat.succ_mul, if_neg (by simp; omega), show i * k + k + f - ((List.range k).map (cl t)).length = i * k + f by simp; omega]
      rw [ih i (by simpa using hi)]
      simp [rAt]
theorem flatR_split {k n j : Nat} (hj : j < n * k) : j / k < n ∧ j % k < k ∧ j = j / k * k + j % k := by
  have hk : 0 < k := by rcases Nat.eq_zero_or_pos k with h | h
                        · subst h; simp at hj
                        · exact h
  exact ⟨(Nat.div_lt_iff_lt_mul hk).2 hj, Nat.mod_lt _ hk, by rw [Nat.mul_comm]; exact (Nat.div_add_mod j k).symm⟩
theorem flatR_ext {cl : T → Nat → Value} {k : Nat} {ts : List T} {xs : List Value} (hl : xs.length = ts.length * k) (h : ∀ i f, i < ts.length → f < k → xs[i * k + f]? = some (cl (rAt ts i) f)) : xs = flatR cl k ts := by
  apply List.ext_getElem?
  intro j
  by_cases hj : j < ts.length * k
  · obtain ⟨h1, h2, h3⟩ := flatR_split hj
    rw [h3, h _ _ h1 h2, flatR_get _ _ _ _ _ h1 h2]
  · rw [List.getElem?_eq_none (by omega), List.getElem?_eq_none (by rw [flatR_len]; omega)]
theorem flatR_set {cl : T → Nat → Value} {k : Nat} {ts : List T} {i f : Nat} {t : T} {x : Value} (hi : i < ts.length) (hf : f < k) (hx : cl t f = x) (ht : ∀ f', f' < k → f' ≠ f → cl t f' = cl (rAt ts i) f') :
    (flatR cl k ts).set (i * k + f) x = flatR cl k (ts.set i t) := by
  refine flatR_ext (by rw [List.length_set, List.length_set, flatR_len]) fun j f' hj hf' => ?_
  rw [List.length_set] at hj
  rw [rAt_set hi, List.getElem?_set]
  by_cases e : i * k + f = j * k + f'
  · have hk : 0 < k := by omega
    have e1 : i = j := by
      have h1 : (i * k + f) / k = i := by rw [Nat.mul_comm, Nat.mul_add_div hk, Nat.div_eq_of_lt hf]; rfl
      have h2 : (j * k + f') / k = j := by rw [Nat.mul_comm, Nat.mul_add_div hk, Nat.div_eq_of_lt hf']; rfl
      rw [← h1, e, h2]
    subst e1
    have e2 : f = f' := by omega
    subst e2
    rw [if_pos rfl, if_pos rfl, if_pos (by rw [flatR_len]; have := Nat.mul_le_mul_right k hi; rw [Nat.succ_mul] at this; omega), hx]
  · rw [if_neg e, flatR_get _ _ _ _ _ hj hf']
    by_cases e1 : j = i
    · subst e1
      rw [if_pos rfl, ht f' hf' (by omega)]
    · rw [if_neg e1]

/-- The slice value v reads, in w, as the records ts. -/
def RdR (cl : T → Nat → Value) (k : Nat) (w : World) (v : Value) (ts : List T) : Prop :=
  (ts = [] ∧ ∃ a cap, v = .slice a 0 cap ∧ (a = none → cap = 0)) ∨
  ∃ g off cap, v = .slice (some ⟨g, off, none⟩) ts.length cap ∧ g < w.heap.size ∧ ts.length ≤ cap ∧ cap ≤ maxLen ∧ ∀ i, i < ts.length → ∀ f, f < k → w.cell? ⟨g, off + i * k + f, none⟩ = some (cl (rAt ts i) f)

variable {cl : T → Nat → Value} {k : Nat}
theorem RdR.below {w w' : World} {C : Nat} {v : Value} {ts : List T} (h : RdR cl k w v ts) (hb : Below C w w') (hC : w.heap.size ≤ C) : RdR cl k w' v ts := by
  rcases h with h | ⟨g, off, cap, hv, hg, hl, hm, hc⟩
  · exact .inl h
  · exact .inr ⟨g, off, cap, hv, by have := hb.size; omega, hl, hm, fun i hi f hf => by rw [hb.cell (p := ⟨g, off + i * k + f, none⟩) (by show g < C; omega)]; exact hc i hi f hf⟩
theorem RdR.later {w w' : World} {v : Value} {ts : List T} (h : RdR cl k w v ts) (hb : Below w.heap.size w w') : RdR cl k w' v ts := h.below hb (Nat.le_refl _)
theorem RdR.drewN {w : World} {v : Value} {ts : List T} (h : RdR cl k w v ts) (n : Nat) : RdR cl k (w.drewN n) v ts := h.later (below_drewN (Below.refl _ _) n)
theorem RdR.len {w : World} {v : Value} {ts : List T} (h : RdR cl k w v ts) : ∃ a cap, v = .slice a ts.length cap ∧ ts.length ≤ cap := by
  rcases h with ⟨rfl, a, cap, hv, -⟩ | ⟨g, off, cap, hv, _, hl, _⟩
  · exact ⟨_, _, hv, Nat.zero_le _⟩
  · exact ⟨_, _, hv, hl⟩
theorem RdR.max {w : World} {v : Value} {ts : List T} (h : RdR cl k w v ts) : ts.length ≤ maxLen := by
  rcases h with ⟨rfl, -⟩ | ⟨g, off, cap, -, -, hl, hm, -⟩
  · simp
  · omega
theorem RdR.at_ {w : World} {a : Option Addr} {n cap : Nat} {ts : List T} (h : RdR cl k w (.slice a n cap) ts) (hn : n = ts.length) (i : Nat) (hi : i < n) :
    ∃ g off, a = some ⟨g, off, none⟩ ∧ g < w.heap.size ∧ ∀ f, f < k → w.cell? ⟨g, off + i * k + f, none⟩ = some (cl (rAt ts i) f) := by
  rcases h with ⟨rfl, -⟩ | ⟨g, off, cap', hv, hg, hl, hm, hc⟩
  · simp at hn; omega
  · simp only [Value.slice.injEq] at hv
    obtain ⟨rfl, -, -⟩ := hv
    exact ⟨g, off, rfl, hg, hc i (by omega)⟩
theorem RdR.take {w : World} {a : Option Addr} {n cap : Nat} {ts : List T} (h : RdR cl k w (.slice a n cap) ts) (m : Nat) (hk : m ≤ n) : RdR cl k w (.slice a m cap) (ts.take m) := by
  rcases h with ⟨rfl, a', cap', hv, hn⟩ | ⟨g, off, cap', hv, hg, hl, hm, hc⟩
  · simp only [Value.slice.injEq] at hv
    obtain ⟨rfl, rfl, rfl⟩ := hv
    obtain rfl : m = 0 := by omega
    exact .inl ⟨by simp, _, _, rfl, hn⟩
  · simp only [Value.slice.injEq] at hv
    obtain ⟨rfl, rfl, rfl⟩ := hv
    have hlen : (ts.take m).length = m := by simp; omega
    refine .inr ⟨g, off, cap, by rw [hlen], hg, by omega, hm, fun i hi f hf => ?_⟩
    rw [hlen] at hi
    rw [rAt_take _ hi]
    exact hc i (by omega) f hf
theorem RdR.drop {w : World} {g off n cap m : Nat} {ts : List T} (h : RdR cl k w (.slice (some ⟨g, off, none⟩) n cap) ts) (hk : m ≤ n) (hc : ¬ cap = m) : RdR cl k w (.slice (some ⟨g, off + m * k, none⟩) (n - m) (cap - m)) (ts.drop m) := by
  rcases h with ⟨rfl, a', cap', hv, hn⟩ | ⟨g', off', cap', hv, hg, hl, hm, hcell⟩
  · simp only [Value.slice.injEq] at hv
    obtain ⟨-, rfl, -⟩ := hv
    obtain rfl : m = 0 := by omega
    exact .inl ⟨by simp, _, _, rfl, fun h => by cases h⟩
  · simp only [Value.slice.injEq, Option.some.injEq, Addr.mk.injEq, and_true] at hv
    obtain ⟨⟨rfl, rfl⟩, rfl, rfl⟩ := hv
    have hlen : (ts.drop m).length = ts.length - m := by simp
    refine .inr ⟨g, off + m * k, cap - m, by rw [hlen], hg, by omega, by omega, fun i hi f hf => ?_⟩
    rw [hlen] at hi
    rw [rAt_drop, show off + m * k + i * k + f = off + (m + i) * k + f by rw [Nat.add_mul]; omega]
    exact hcell (m + i) (by omega) f hf

variable {e : TypeId}
theorem OwnR.cellAt {w : World} {B g n cap : Nat} {ts : List T} (h : OwnR e cl k w B (.slice (some ⟨g, 0, none⟩) n cap) ts) (i : Nat) (hi : i < ts.length) (f : Nat) (hf : f < k) : w.cell? ⟨g, i * k + f, none⟩ = some (cl (rAt ts i) f) := by
  have hn := h.form.1
  subst hn
  rw [World.ownsRow.cellAt h (i * k + f) (by have := Nat.mul_le_mul_right k hi; rw [Nat.succ_mul] at this; omega), flatR_get _ _ _ _ _ hi hf]
theorem OwnR.rd {w : World} {B : Nat} {v : Value} {ts : List T} (h : OwnR e cl k w B v ts) : RdR cl k w v ts := by
  have h' := h
  rcases h.cases with ⟨rfl, rfl⟩ | ⟨g, cap, rfl, hB, hg, hl, hm⟩
  · exact .inl ⟨rfl, _, _, rfl, fun _ => rfl⟩
  · exact .inr ⟨g, 0, cap, rfl, hg, hl, hm, fun i hi f hf => by rw [Nat.zero_add]; exact h'.cellAt i hi f hf⟩
/-- One cell is written: field f of record i. -/
theorem OwnR.put {w : World} {B g n cap : Nat} {ts : List T} (h : OwnR e cl k w B (.slice (some ⟨g, 0, none⟩) n cap) ts) {i f : Nat} {t : T} {x : Value} (hi : i < ts.length) (hf : f < k) (hx : cl t f = x) (ht : ∀ f', f' < k → f' ≠ f → cl t f' = cl (rAt ts i) f') :
    OwnR e cl k (w.setCell ⟨g, i * k + f, none⟩ x) B (.slice (some ⟨g, 0, none⟩) n cap) (ts.set i t) ∧ w.grownBy (w.setCell ⟨g, i * k + f, none⟩ x) (some g) := by
  have hn := h.form.1
  subst hn
  obtain ⟨s1, g1⟩ := World.ownsRow.stored h (i * k + f) x
  refine ⟨?_, g1⟩
  unfold OwnR
  rw [List.length_set, ← flatR_set hi hf hx ht]
  exact s1
end
end Go.Proofs.Ytpmdjdlojbpcfaa
