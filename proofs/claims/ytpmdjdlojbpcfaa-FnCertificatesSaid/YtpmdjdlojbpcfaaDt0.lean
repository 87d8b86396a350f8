/- Drawing sites from bytes: rows of numbers that grow; the state while they are drawn. -/
import Derived.Test.YtpmdjdlojbpcfaaDr1
import Derived.Test.YtpmdjdlojbpcfaaStH
import Derived.Test.YtpmdjdlojbpcfaaStG
import Derived.Test.YtpmdjdlojbpcfaaStO
import Derived.Deep.CutRange
import Derived.Deep.CutBlock
namespace Go.Proofs.Ytpmdjdlojbpcfaa
open Go.RowKit Go.Sort
set_option linter.unusedSimpArgs false
set_option linter.unusedVariables false

theorem lst_cells (w : World) (L : List Int) (t : TypeId) (i : Nat) (hi : i < L.length) : (w.alloc (.cells (L.map (Value.int .i64)).toArray t)).cell? ⟨w.heap.size, i, none⟩ = some (.int .i64 (L[i]?.getD 0)) := by
  simp [go_sem, hi]
theorem among_list (p K : Nat) (L : List Int) (w : World) (h : Cur w p K) (hK : K ≤ 800000) (h1 : 1 ≤ L.length) (hm : L.length ≤ 60000) (t : TypeId) :
    Calls Try.prog 53 #[.pointer (some ⟨p, 0, none⟩), .slice (some ⟨w.heap.size, 0, none⟩) L.length L.length] (w.alloc (.cells (L.map (Value.int .i64)).toArray t)) fun e w' => ∃ z, z ∈ L ∧ e = .returned (.int .i64 z) ∧ Cur w' p (K + 2) ∧ Kp p (p + 1) w w' := by
  have al := (Below.refl w.heap.size w).alloc (Nat.le_refl _) (.cells (L.map (Value.int .i64)).toArray t)
  have hne : w.heap.size ≠ p := by have := h.lt; omega
  refine (among_any p K w.heap.size L.length L.length (fun i => L[i]?.getD 0) _ (h.later al) (by omega) h1 hm hne (by simp) (fun i hi => lst_cells w L t i hi)).mono ?_
  rintro e w' ⟨r, rfl, hr, hC, hk⟩
  exact ⟨_, by rw [List.getElem?_eq_getElem hr]; exact List.getElem_mem hr, rfl, hC, (Kp.of_below al).trans hk⟩
/-- A list to draw from lies in block g. -/
structure LS (W : World) (g : Nat) (L : List Int) : Prop where
  lt : g < W.heap.size
  at_ : ∀ i, i < L.length → W.cell? ⟨g, i, none⟩ = some (.int .i64 (L[i]?.getD 0))
theorem LS.new (w : World) (L : List Int) (t : TypeId) : LS (w.alloc (.cells (L.map (Value.int .i64)).toArray t)) w.heap.size L := ⟨by simp, lst_cells w L t⟩
theorem LS.go {W W' : World} {g p : Nat} {L : List Int} (h : LS W g L) (hk : Kp p (p + 1) W W') (hp : g ≠ p) : LS W' g L :=
  ⟨Nat.lt_of_lt_of_le h.lt hk.size, fun i hi => by rw [World.cell?_of_block (a := ⟨g, i, none⟩) (hk.block g h.lt (by omega))]; exact h.at_ i hi⟩
theorem LS.below {W W' : World} {g : Nat} {L : List Int} (h : LS W g L) (hb : Below W.heap.size W W') : LS W' g L :=
  ⟨Nat.lt_of_lt_of_le h.lt hb.size, fun i hi => by rw [hb.cell (p := ⟨g, i, none⟩) h.lt]; exact h.at_ i hi⟩
theorem among_ls (p K g m : Nat) (L : List Int) (w : World) (h : Cur w p K) (hK : K ≤ 800000) (hm : m = L.length) (h1 : 1 ≤ m) (hm2 : m ≤ 60000) (hl : LS w g L) (hp : g ≠ p) :
    Calls Try.prog 53 #[.pointer (some ⟨p, 0, none⟩), .slice (some ⟨g, 0, none⟩) m m] w fun e w' => ∃ z, z ∈ L ∧ e = .returned (.int .i64 z) ∧ Cur w' p (K + 2) ∧ Kp p (p + 1) w w' := by
  subst hm
  refine (among_any p K g L.length L.length (fun i => L[i]?.getD 0) _ h (by omega) h1 hm2 hp hl.lt (fun i hi => hl.at_ i hi)).mono ?_
  rintro e w' ⟨r, rfl, hr, hC, hk⟩
  exact ⟨_, by rw [List.getElem?_eq_getElem hr]; exact List.getElem_mem hr, rfl, hC, hk⟩
/-- As OwnJ, its rows named. -/
def OwnU (w : World) (B C : Nat) (v : Value) (L : List (List Int)) (us : Nat → Value) : Prop :=
  w.ownsRow B 26 1 v L.length ((List.range L.length).map us) ∧ (∀ k, v.ownBlock = some k → k < C) ∧
    (∀ i, i < L.length → OwnI w B C (us i) (rowAt L i)) ∧ ∀ i j, i < L.length → j < L.length → i ≠ j → (us i).ownBlock = none ∨ (us i).ownBlock ≠ (us j).ownBlock
section
variable {w w' : World} {B C : Nat} {v : Value} {L : List (List Int)} {us : Nat → Value}
theorem OwnU.j (h : OwnU w B C v L us) : OwnJ w B C v L := ⟨us, h⟩
theorem OwnU.nil (w : World) (B C : Nat) : OwnU w B C (.slice none 0 0) [] (fun _ => .slice none 0 0) :=
  ⟨World.ownsRow_nil _ _ _ _, fun k hk => (by cases hk), fun i hi => absurd hi (by simp), fun i j hi => absurd hi (by simp)⟩
theorem OwnU.later (h : OwnU w B C v L us) (hb : Below w.heap.size w w') : OwnU w' B C v L us :=
  ⟨row_at h.1 fun k hk => hb.block k (h.1.lt k hk).2, h.2.1, fun i hi => (h.2.2.1 i hi).later hb, h.2.2.2⟩
theorem OwnU.kept {B' C' : Nat} (h : OwnU w B C v L us) (hk : Kp B' C' w w') (hx : C ≤ B' ∨ C' ≤ B) : OwnU w' B C v L us :=
  ⟨row_at h.1 fun k hk' => hk.block k (h.1.lt k hk').2 (by have := (h.1.lt k hk').1; have := h.2.1 k hk'; omega), h.2.1, fun i hi => (h.2.2.1 i hi).kept hk hx, h.2.2.2⟩
theorem OwnU.hi (h : OwnU w B C v L us) (hb : Below C w w') : OwnU w' B C v L us :=
  ⟨row_at h.1 fun k hk => hb.block k (h.2.1 k hk), h.2.1, fun i hi => ⟨(h.2.2.1 i hi).1.below hb (h.2.2.1 i hi).2, (h.2.2.1 i hi).2⟩, h.2.2.2⟩
theorem OwnU.wide2 (h : OwnU w B C v L us) {C' : Nat} (h1 : C ≤ C') : OwnU w B C' v L us :=
  ⟨h.1, fun k hk => Nat.lt_of_lt_of_le (h.2.1 k hk) h1, fun i hi => (h.2.2.1 i hi).wide (Nat.le_refl _) h1, h.2.2.2⟩
theorem OwnU.cell {g n cap : Nat} (h : OwnU w B C (.slice (some ⟨g, 0, none⟩) n cap) L us) (hn : L.length = n) (k : Nat) (hk : k < n) :
    w.cell? ⟨g, k, none⟩ = some (us k) ∧ w.frozen? ⟨g, k, none⟩ = false := by
  have h1 := h.1
  rw [hn] at h1
  exact ⟨by rw [h1.cellAt k (by omega)]; simp [hk], h1.frozenAt _⟩
theorem OwnU.form (h : OwnU w B C v L us) (hl : 0 < L.length) : ∃ g cap, v = .slice (some ⟨g, 0, none⟩) L.length cap ∧ B ≤ g ∧ g < C ∧ g < w.heap.size := by
  rcases h.1.2 with ⟨rfl, hn⟩ | ⟨g, cap, cur, rfl, hg, hh, hc, hm, hcs, ht⟩
  · omega
  · exact ⟨g, cap, rfl, hg, h.2.1 g rfl, (Array.getElem?_eq_some_iff.1 hh).1⟩
/-- One row is another, whatever it was made of: its own memory grown, or new. -/
theorem OwnU.swap {w2 : World} {g n cap k : Nat} {zs : List Int} {u : Value} (h : OwnU w B C (.slice (some ⟨g, 0, none⟩) n cap) L us) (hn : L.length = n) (hk : k < n) (hC : C ≤ w.heap.size) (hu : Own w2 B u zs)
    (hx : u.ownBlock = (us k).ownBlock ∨ ∀ b, u.ownBlock = some b → w.heap.size ≤ b) (hs : w.heap.size ≤ w2.heap.size) (hh : ∀ b, b < w.heap.size → (us k).ownBlock ≠ some b → w2.heap[b]? = w.heap[b]?) :
    OwnU (w2.setCell ⟨g, k, none⟩ u) B w2.heap.size (.slice (some ⟨g, 0, none⟩) n cap) (L.set k zs) (fun i => if i = k then u else us i) ∧ w2.grownBy (w2.setCell ⟨g, k, none⟩ u) (some g) := by
  obtain ⟨h1, h2, h3, h4⟩ := h
  have hgl := h1.lt g rfl
  have hrow : ∀ i, i < L.length → (us i).ownBlock ≠ some g := fun i hi e => by
    rcases row_apart (h3 i hi).1 h1 (by decide) with hx | hx
    · rw [hx] at e; cases e
    · exact hx e
  have h1' : w2.ownsRow B 26 1 (.slice (some ⟨g, 0, none⟩) n cap) L.length ((List.range L.length).map us) := row_at h1 fun b hb => by
    cases hb; exact hh g hgl.2 (hrow k (by omega))
  have h3' : ∀ i, i < L.length → i ≠ k → Own w2 B (us i) (rowAt L i) := fun i hi hne => row_at (h3 i hi).1 fun b hb => by
    refine hh b ((h3 i hi).1.lt b hb).2 fun e => ?_
    rcases h4 i k hi (by omega) hne with hx | hx
    · rw [hx] at hb; cases hb
    · exact hx (hb.trans e.symm)
  rw [hn] at h1'
  obtain ⟨s1, g1⟩ := h1'.stored k u
  rw [map_set us u hk] at s1
  refine ⟨⟨?_, ?_, ?_, ?_⟩, g1⟩
  · rw [List.length_set, hn]; exact s1
  · intro j hj; have := h2 j hj; omega
  · intro i hi
    dsimp only
    rw [List.length_set] at hi
    rw [rowAt_set (by omega)]
    by_cases he : i = k
    · rw [if_pos he, if_pos he]
      exact ⟨hu.kept g1 (row_apart hu h1' (by decide)), fun b hb => (hu.lt b hb).2⟩
    · rw [if_neg he, if_neg he]
      exact ⟨(h3' i hi he).kept g1 (row_apart (h3' i hi he) h1' (by decide)), fun b hb => ((h3' i hi he).lt b hb).2⟩
  · intro i j hi hj hne
    dsimp only
    rw [List.length_set] at hi hj
    have key : ∀ j, j < L.length → j ≠ k → u.ownBlock = none ∨ u.ownBlock ≠ (us j).ownBlock := fun j hj hjk => by
      rcases hx with hx | hx
      · rw [hx]; exact h4 k j (by omega) hj (Ne.symm hjk)
      · cases hub : u.ownBlock with
        | none => exact .inl rfl
        | some b =>
          refine .inr fun e => ?_
          have a1 := hx b hub
          have a2 := (h3 j hj).2 b e.symm
          omega
    by_cases he : i = k
    · rw [if_pos he, if_neg (by omega)]
      exact key j hj (by omega)
    · rw [if_neg he]
      by_cases hf : j = k
      · rw [if_pos hf]
        rcases key i hi he with hx | hx
        · cases hui : (us i).ownBlock with
          | none => exact .inl rfl
          | some b => rw [hx]; exact .inr (by simp)
        · exact .inr (Ne.symm hx)
      · rw [if_neg hf]
        exact h4 i j hi hj hne
end
/-- A row is put behind the others. -/
theorem append_row {w : World} {ops : Array Oper} {rest : List Oper} {o : Oper} {a : Act} {Q : Exit → Act → World → Prop} (hgd : o.guard = none) (s x : Operand)
    (ho : o.op = .call { callee := .builtin .append, args := #[s, x], argTypes := #[23, 23] })
    (B C : Nat) (v : Value) (L : List (List Int)) (us : Nat → Value) (u : Value) (zs : List Int) (h : Nat) (hs : a.eval s = v) (hx : a.eval x = .slice (some ⟨h, 0, none⟩) 1 1)
    (hown : OwnU w B C v L us) (hu : Own w C u zs) (hcell : w.cell? ⟨h, 0, none⟩ = some u) (hlen : L.length ≤ 1048576) (hB : B ≤ C) (hC : C ≤ w.heap.size)
    (hK : ∀ v' w', OwnU w' B w'.heap.size v' (L ++ [zs]) (fun i => if i = L.length then u else us i) → w.grownBy w' v.ownBlock → wpList Try.prog ops Q rest (a.put o.dst v') w') : wpList Try.prog ops Q (o :: rest) a w := by
  obtain ⟨i0, hi, hz0, hz1, hz2⟩ := info_parts Try_info_ints
  obtain ⟨h1, h2, h3, h4⟩ := hown
  refine wpList_append_own w hgd s x 23 ho B 26 i0 (.slice none 0 0) 1 24 Try.underlying23 hi hz0 hz1 hz2 rfl (by decide) v L.length _ hs h1
    ⟨h, 0, none⟩ 1 1 [u] hx rfl ?_ ?_ (by unfold maxLen; omega) (by omega) (by omega) ?_
  · intro j y hj
    match j, hj with
    | 0, hj => simp at hj; subst hj; simpa [Addr.add] using hcell
  · intro y hy
    simp at hy; subst hy
    obtain ⟨a', c', rfl⟩ := hu.rd.len
    rfl
  · intro v' w' o1 hg _
    refine hK v' w' ⟨?_, fun k hk => (o1.lt k hk).2, ?_, ?_⟩ hg
    · rw [List.length_append, List.length_singleton, List.range_succ, List.map_append, List.map_singleton, if_pos rfl]
      have e : (List.range L.length).map (fun i => if i = L.length then u else us i) = (List.range L.length).map us := by
        apply List.map_congr_left
        intro i hi
        rw [if_neg (by have := List.mem_range.1 hi; omega)]
      rw [e]; exact o1
    · intro i hi
      dsimp only
      rw [List.length_append, List.length_singleton] at hi
      by_cases he : i = L.length
      · rw [if_pos he, show rowAt (L ++ [zs]) i = zs by simp [rowAt, he]]
        have := (hu.base hB).kept hg (row_apart (hu.base hB) h1 (by decide))
        exact ⟨this, fun b hb => (this.lt b hb).2⟩
      · rw [if_neg he, show rowAt (L ++ [zs]) i = rowAt L i by unfold rowAt; rw [List.getElem?_append_left (by omega)]]
        have := (h3 i (by omega)).1.kept hg (row_apart (h3 i (by omega)).1 h1 (by decide))
        exact ⟨this, fun b hb => (this.lt b hb).2⟩
    · intro i j hi hj hne
      dsimp only
      rw [List.length_append, List.length_singleton] at hi hj
      have key : ∀ j, j < L.length → u.ownBlock = none ∨ u.ownBlock ≠ (us j).ownBlock := fun j hj => by
        cases hub : u.ownBlock with
        | none => exact .inl rfl
        | some b =>
          refine .inr fun e => ?_
          have a1 := (hu.lt b hub).1
          have a2 := (h3 j hj).2 b e.symm
          omega
      by_cases he : i = L.length
      · rw [if_pos he, if_neg (by omega)]
        exact key j (by omega)
      · rw [if_neg he]
        by_cases hf : j = L.length
        · rw [if_pos hf]
          rcases key i (by omega) with hx | hx
          · cases hui : (us i).ownBlock with
            | none => exact .inl rfl
            | some b => rw [hx]; exact .inr (by simp)
          · exact .inr (Ne.symm hx)
        · rw [if_neg hf]
          exact h4 i j (by omega) (by omega) hne

/-- While something is drawn: the cursor; nothing else of what was there is written. -/
structure DB (w W : World) (p K : Nat) : Prop where
  cur : Cur W p K
  kp : Kp p (p + 1) w W
  pw : p < w.heap.size
section
variable {w W W' : World} {p K K' : Nat}
theorem DB.go (h : DB w W p K) (hC : Cur W' p K') (hk : Kp p (p + 1) W W') : DB w W' p K' := ⟨hC, h.kp.trans hk, h.pw⟩
theorem DB.more (h : DB w W p K) (hK : K ≤ K') : DB w W p K' := ⟨h.cur.more hK, h.kp, h.pw⟩
theorem DB.lo (h : DB w W p K) (hb : Below w.heap.size W W') : DB w W' p K :=
  have hp := h.pw
  ⟨h.cur.kp (B := w.heap.size) ⟨hb.os, hb.tape, hb.output, hb.size, fun k hk hx => hb.block k (by rcases hx with hx | hx <;> omega)⟩ (by omega),
   ⟨hb.os.trans h.kp.os, hb.tape.trans h.kp.tape, hb.output.trans h.kp.output, Nat.le_trans h.kp.size hb.size, fun k hk hx => (hb.block k hk).trans (h.kp.block k hk hx)⟩, h.pw⟩
theorem DB.size (h : DB w W p K) : w.heap.size ≤ W.heap.size := h.kp.size
theorem DB.later (h : DB w W p K) (hb : Below W.heap.size W W') : DB w W' p K := h.lo (hb.mono h.size)
end
/-- And the sites, in blocks up to C. -/
structure SJ (w W : World) (p K C : Nat) (v : Value) (L : List (List Int)) (us : Nat → Value) : Prop where
  db : DB w W p K
  own : OwnU W w.heap.size C v L us
  lo : w.heap.size ≤ C
  hi : C ≤ W.heap.size
section
variable {w W W' : World} {p K K' C : Nat} {v : Value} {L : List (List Int)} {us : Nat → Value}
theorem SJ.go (h : SJ w W p K C v L us) (hC : Cur W' p K') (hk : Kp p (p + 1) W W') : SJ w W' p K' C v L us :=
  ⟨h.db.go hC hk, h.own.kept hk (.inr h.db.pw), h.lo, Nat.le_trans h.hi hk.size⟩
theorem SJ.up (h : SJ w W p K C v L us) (hb : Below C W W') : SJ w W' p K C v L us :=
  ⟨h.db.lo (hb.mono h.lo), h.own.hi hb, h.lo, Nat.le_trans h.hi hb.size⟩
theorem SJ.later (h : SJ w W p K C v L us) (hb : Below W.heap.size W W') : SJ w W' p K C v L us := h.up (hb.mono h.hi)
theorem SJ.more (h : SJ w W p K C v L us) (hK : K ≤ K') : SJ w W p K' C v L us := ⟨h.db.more hK, h.own, h.lo, h.hi⟩
theorem SJ.wide {C' : Nat} (h : SJ w W p K C v L us) (h1 : C ≤ C') (h2 : C' ≤ W.heap.size) : SJ w W p K C' v L us :=
  ⟨h.db, ⟨h.own.1, fun k hk => Nat.lt_of_lt_of_le (h.own.2.1 k hk) h1, fun i hi => (h.own.2.2.1 i hi).wide (Nat.le_refl _) h1, h.own.2.2.2⟩, Nat.le_trans h.lo h1, h2⟩
end
end Go.Proofs.Ytpmdjdlojbpcfaa
