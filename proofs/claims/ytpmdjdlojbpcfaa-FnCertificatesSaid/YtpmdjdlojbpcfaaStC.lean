/- Chapter 8: the first numbers that are good: a search that goes on at a label and leaves by a goto. -/
import Derived.Test.YtpmdjdlojbpcfaaStA
import Derived.Scope
import Derived.WalkMore
namespace Go
/-- As Q; by a goto to a label that stands in the scope: J. -/
def Exit.jumps (c : Code) (J : Nat → Act → World → Prop) (Q : Exit → Act → World → Prop) : Exit → Act → World → Prop
  | .goto l, a, w => (∃ rest, findLabel c l = some rest) ∧ J l a w
  | e, a, w => Q e a w
section
variable {P : Program} {a : Act} {w : World} {Q : Exit → Act → World → Prop}
/-- A scope with several labels, in which the first pass comes to label l0 by itself: what holds at each jump, with a measure that every pass lowers. -/
theorem wp_scope_from {c X : Code} (l0 : Nat) (hf0 : findLabel c l0 = some (Code.skip.seq X)) (J : Nat → Nat → Act → World → Prop)
    (first : (∀ n a w, J l0 n a w → X.wp P (Exit.jumps c (fun l a w => ∃ n, J l n a w) Q) a w) → c.wp P (Exit.jumps c (fun l a w => ∃ n, J l n a w) Q) a w)
    (body : ∀ n a w, J l0 n a w → X.wp P (Exit.jumps c (fun l' a' w' => ∃ n', n' < n ∧ J l' n' a' w') Q) a w)
    (others : ∀ n l rest a w, l ≠ l0 → findLabel c l = some rest → J l n a w → rest.wp P (Exit.jumps c (fun l' a' w' => ∃ n', n' < n ∧ J l' n' a' w') Q) a w) : (Code.scope c).wp P Q a w := by
  have pass : ∀ n l rest a w, findLabel c l = some rest → J l n a w → rest.wp P (Exit.jumps c (fun l' a' w' => ∃ n', n' < n ∧ J l' n' a' w') Q) a w := fun n l rest a w hf hJ => by
    by_cases e : l = l0
    · subst e
      rw [hf0] at hf
      cases hf
      exact wp_seq (wp_skip (body n a w hJ))
    · exact others n l rest a w e hf hJ
  intro b k cs
  have hg : ∀ l rest, findLabel c l = some rest → gotoIn l (.inScope c :: k) = some (.code rest :: .inScope c :: k) := fun l rest hf => by simp [gotoIn, hf]
  have key : ∀ n l rest a w, findLabel c l = some rest → J l n a w → ∃ e a' w', Q e a' w' ∧ Arrives P (lone (b.at a (.code rest :: .inScope c :: k)) cs w) b k cs e a' w' := by
    intro n
    induction n using Nat.strongRecOn with
    | _ n ih =>
      intro l rest a w hf hJ
      obtain ⟨e, a₁, w₁, hq, harr⟩ := pass n l rest a w hf hJ b (.inScope c :: k) cs
      cases e with
      | normal => exact ⟨.normal, a₁, w₁, hq, Steps.trans harr (.one step_inScope)⟩
      | exit id => exact ⟨.exit id, a₁, w₁, hq, fun k' hk => harr k' (by simp [exitTo, hk])⟩
      | goto l' =>
        obtain ⟨⟨rest', hf'⟩, n', hlt, hJ'⟩ := hq
        obtain ⟨e₂, a₂, w₂, hq₂, harr₂⟩ := ih n' hlt l' rest' a₁ w₁ hf' hJ'
        exact ⟨e₂, a₂, w₂, hq₂, .of_steps (harr _ (hg l' rest' hf')) harr₂⟩
      | ret => exact ⟨_, a₁, w₁, hq, harr⟩
      | panic ch => exact ⟨_, a₁, w₁, hq, harr⟩
      | outgrown => exact ⟨_, a₁, w₁, hq, harr⟩
  have hmono : ∀ n a w, J l0 n a w → X.wp P (Exit.jumps c (fun l a w => ∃ n, J l n a w) Q) a w := fun n a w hJ =>
    wp_mono (body n a w hJ) (fun e a w h => by
      cases e with
      | goto l' => exact ⟨h.1, h.2.choose, h.2.choose_spec.2⟩
      | normal => exact h
      | exit id => exact h
      | ret => exact h
      | panic ch => exact h
      | outgrown => exact h)
  obtain ⟨e, a₁, w₁, hq, harr⟩ := first hmono b (.inScope c :: k) cs
  cases e with
  | normal => exact ⟨.normal, a₁, w₁, hq, .head step_scope (Steps.trans harr (.one step_inScope))⟩
  | exit id => exact ⟨.exit id, a₁, w₁, hq, fun k' hk => .head step_scope (harr k' (by simp [exitTo, hk]))⟩
  | goto l' =>
    obtain ⟨⟨rest', hf'⟩, n', hJ'⟩ := hq
    obtain ⟨e₂, a₂, w₂, hq₂, harr₂⟩ := key n' l' rest' a₁ w₁ hf' hJ'
    exact ⟨e₂, a₂, w₂, hq₂, .of_steps (.head step_scope (harr _ (hg l' rest' hf'))) harr₂⟩
  | ret => exact ⟨_, a₁, w₁, hq, .of_steps (.one step_scope) harr⟩
  | panic ch => exact ⟨_, a₁, w₁, hq, .of_steps (.one step_scope) harr⟩
  | outgrown => exact ⟨_, a₁, w₁, hq, .of_steps (.one step_scope) harr⟩
end
end Go
namespace Go.Proofs.Ytpmdjdlojbpcfaa
open Go.RowKit
set_option linter.unusedSimpArgs false
set_option linter.unusedVariables false

theorem Own.pop {w : World} {B g k cap : Nat} {l : List Int} {x : Int} (h : Own w B (.slice (some ⟨g, 0, none⟩) (k + 1) cap) (l ++ [x])) (hk : l.length = k) : Own w B (.slice (some ⟨g, 0, none⟩) k cap) l := by
  obtain ⟨h1, h2⟩ := h
  rcases h2 with ⟨h2, -⟩ | ⟨g', cap', cur, hv, hg, hh, hc, hm, hs, ht⟩
  · cases h2
  · simp only [Value.slice.injEq, Option.some.injEq, Addr.mk.injEq, and_true] at hv
    obtain ⟨rfl, -, rfl⟩ := hv
    simp only [List.length_append, List.length_singleton, hk, Nat.mul_one] at ht hc
    refine ⟨by simp, .inr ⟨g, cap, cur, by rw [hk], hg, hh, by omega, hm, hs, ?_⟩⟩
    have e : List.take k (List.map (Value.int .i64) (l ++ [x])) = List.map (Value.int .i64) l := by rw [List.map_append, List.take_append_of_le_length (by simp [hk]), List.take_of_length_le (by simp [hk])]
    rw [Nat.mul_one, hk, ← e, ← ht, List.take_take, Nat.min_eq_left (by omega)]
theorem nil_or_snoc (l : List Int) : l = [] ∨ ∃ l' x, l = l' ++ [x] := by
  rcases List.eq_nil_or_concat l with h | ⟨l', x, h⟩
  · exact .inl h
  · exact .inr ⟨l', x, by rw [h, List.concat_eq_append]⟩
/-- What holds at the labels of the search. -/
def FnJ (P : List Int → Bool) (size m g : Nat) (pre cb : Array Value) (w : World) : Nat → Nat → Act → World → Prop := (fun lb n a' w' => (lb = 0 ∧ ∃ (v nx u10 u11 u12 u13 u14 u15 u16 u17 u18 u19 u20 u21 u22 u23 u24 u25 u26 u27 u28 u29 u30 u31 u32 u33 u34 u35 u36 u37 u38 u39 u40 u41 u42 u43 u44 u45 u46 u47 u48 u49 u50 u51 u52 : Value) (l : List Int) (next : Nat), a' = { tmps := #[.int .i64 size, .int .i64 m, .func (.func g) pre cb, undef, undef, undef, .slice none 0 0, .bool false, v, nx, u10, u11, u12, u13, u14, u15, u16, u17, u18, u19, u20, u21, u22, u23, u24, u25, u26, u27, u28, u29, u30, u31, u32, u33, u34, u35, u36, u37, u38, u39, u40, u41, u42, u43, u44, u45, u46, u47, u48, u49, u50, u51, u52], defers := [] } ∧ nx = .int .i64 next ∧ n = fnW m next l + 1 ∧ FnI P size m l next ∧ Own w' w.heap.size v l ∧ Below w.heap.size w w') ∨ (lb = 1 ∧ n = 0 ∧ ∃ (v nx u10 u11 u12 u13 u14 u15 u16 u17 u18 u19 u20 u21 u22 u23 u24 u25 u26 u27 u28 u29 u30 u31 u32 u33 u34 u35 u36 u37 u38 u39 u40 u41 u42 u43 u44 u45 u46 u47 u48 u49 u50 u51 u52 : Value) (l : List Int), a' = { tmps := #[.int .i64 size, .int .i64 m, .func (.func g) pre cb, undef, undef, undef, .slice none 0 0, .bool false, v, nx, u10, u11, u12, u13, u14, u15, u16, u17, u18, u19, u20, u21, u22, u23, u24, u25, u26, u27, u28, u29, u30, u31, u32, u33, u34, u35, u36, u37, u38, u39, u40, u41, u42, u43, u44, u45, u46, u47, u48, u49, u50, u51, u52], defers := [] } ∧ FN P size m (some l) ∧ Own w' w.heap.size v l ∧ Below w.heap.size w w'))
/-- The answer of a search. -/
def FnPost (P : List Int → Bool) (size m : Nat) (w : World) (e : Ending) (w' : World) : Prop :=
  ∃ (r : Option (List Int)) (v : Value), e = .returned (.tuple #[v, .bool r.isSome]) ∧ FN P size m r ∧ Own w' w.heap.size v (r.getD []) ∧ Below w.heap.size w w'
theorem FnPost.none {P : List Int → Bool} {size m : Nat} {w w' : World} (h : FN P size m none) (hb : Below w.heap.size w w') : FnPost P size m w (.returned (.tuple #[.slice none 0 0, .bool false])) w' := ⟨_, _, rfl, h, Own.nil _ _, hb⟩
theorem FnPost.some {P : List Int → Bool} {size m : Nat} {w w' : World} {l : List Int} {v : Value} (h : FN P size m (some l)) (ho : Own w' w.heap.size v l) (hb : Below w.heap.size w w') : FnPost P size m w (.returned (.tuple #[v, .bool true])) w' := ⟨_, _, rfl, h, ho, hb⟩
set_option maxRecDepth 100000 in
set_option maxHeartbeats 4000000 in
theorem firstNumbers_any (g : Nat) (pre cb : Array Value) (P : List Int → Bool) (size m : Nat) (w : World) (eg : ∀ args w, (callFunc g args).run Try.prog w = .ok (.enter g args) w) (hsz : size ≤ 16) (hm : m ≤ 16)
    (hf : ∀ (y : World) (l : List Int), Below w.heap.size w y → Ris l 0 m → l.length = size → Calls Try.prog g (pre ++ #[.int .u64 (setN l)] ++ cb) y fun e w' => e = .returned (.bool (P l)) ∧ Below y.heap.size y w') :
    Calls Try.prog 56 #[.int .i64 size, .int .i64 m, .func (.func g) pre cb] w (FnPost P size m w) := by
  have HF := Lib.hid hf
  clear hf
  go_enter Try.func56, Try.ntmps56
  go_wp2
  refine wp_scope_from 0 rfl (FnJ P size m g pre cb w) (fun hbody => ?_) ?_ ?_
  · go_wp2
    go_step3
    refine ‹∀ (a : Act) (w : World), Code.wp _ _ _ a w → _› _ _ ?_
    exact hbody (fnW m 0 [] + 1) _ _ (Or.inl ⟨rfl, _, .int .i64 0, _, _, _, _, _, _, _, _, _, _, _, _, _, _, _, _, _, _, _, _, _, _, _, _, _, _, _, _, _, _, _, _, _, _, _, _, _, _, _, _, _, _, _, [], 0, rfl, rfl, rfl, FnI.start P size m, Own.nil _ _, Below.refl _ _⟩)
  · intro n a' w' hJ
    rcases hJ with ⟨-, v, nx, u10, u11, u12, u13, u14, u15, u16, u17, u18, u19, u20, u21, u22, u23, u24, u25, u26, u27, u28, u29, u30, u31, u32, u33, u34, u35, u36, u37, u38, u39, u40, u41, u42, u43, u44, u45, u46, u47, u48, u49, u50, u51, u52, l, next, rfl, rfl, hn, hI, hown, hbl⟩ | ⟨hlb, -⟩
    · skip
      have hlen := hI.len
      have hnm := hI.nm
      have hris : Ris l 0 m := hI.ris.wide (Int.le_refl _) (by omega)
      have hst := setOf_any v l w' (fun x hx => by have := hris.2 x hx; omega) hown.rd
      obtain ⟨d, hd⟩ : ∃ d, d + l.length = size := ⟨size - l.length, by omega⟩
      have e0 : (size : Int) - (l.length : Int) = (d : Int) := by omega
      obtain ⟨av, cv, hve, hcv⟩ := hown.rdc.2
      by_cases hd0 : d = 0
      · have hb0 : ((d : Int) == 0) = true := by simp [hd0]
        have hls : l.length = size := by omega
        have hc := HF.out w' l hbl hris hls
        have hdn : ¬ (0 : Int) < d := by omega
        cases hp : P l with
        | true =>
          rw [hp] at hc
          have hFN := Lib.hid (hI.found hls hp)
          obtain ⟨k, hk⟩ : ∃ k, k = l.length := ⟨_, rfl⟩
          rw [← hk] at hve e0
          subst hve
          have HC := Lib.hid hc
          have HS := Lib.hid hst
          have HN := Lib.hid hn
          have HO := Lib.hid hown
          clear hc hst hn hp hls hd hd0 hk hlen hown
          go_wp2_with (first
            | (go_at_call 73; refine HS.out.mono ?_; rintro e w' ⟨rfl, rfl⟩)
            | (go_at_fn g; refine HC.out.mono ?_; rintro e w2 ⟨rfl, hb2⟩))
          go_step3
          exact ⟨⟨_, rfl⟩, 0, by rw [HN.out]; omega, Or.inr ⟨rfl, rfl, _, _, _, _, _, _, _, _, _, _, _, _, _, _, _, _, _, _, _, _, _, _, _, _, _, _, _, _, _, _, _, _, _, _, _, _, _, _, _, _, _, _, _, _, _, l, rfl, hFN.out, HO.out.later hb2, hbl.trans (hb2.mono hbl.size)⟩⟩
        | false =>
          rw [hp] at hc
          have hx : Hid ((l.length = size ∧ P l = false) ∨ (l.length < size ∧ m < next + (size - l.length))) := Lib.hid (.inl ⟨hls, hp⟩)
          rcases nil_or_snoc l with rfl | ⟨l', x, rfl⟩
          · have hN := Lib.hid (hI.none (by simpa using hx.out))
            have HC := Lib.hid hc
            have HS := Lib.hid hst
            have HN := Lib.hid hn
            have HV : v = .slice none 0 0 ∨ ∃ b c, v = .slice (some ⟨b, 0, none⟩) 0 c := by
              rcases hown.cases with ⟨h, -⟩ | ⟨b, c, h, -⟩
              · exact .inl h
              · exact .inr ⟨b, c, h⟩
            clear hc hst hn hp hls hown hve hx hI
            obtain rfl : d = size := by simpa using hd
            clear e0 hd hlen
            rcases HV with rfl | ⟨b, c, rfl⟩
            all_goals
              go_wp2_with (first
                | (go_at_call 73; refine HS.out.mono ?_; rintro e w' ⟨rfl, rfl⟩)
                | (go_at_fn g; refine HC.out.mono ?_; rintro e w2 ⟨rfl, hb2⟩))
              have hbl2 := hbl.trans (hb2.mono hbl.size)
              simp only [Exit.jumps]
              go_ret2
              exact FnPost.none hN.out hbl2
          · obtain ⟨X, hX⟩ : ∃ X : Nat, x = (X : Int) := ⟨x.toNat, by have := hris.2 x (by simp); omega⟩
            subst hX
            have hpop := Lib.hid (hI.pop (by simpa using hx.out))
            have hW := Lib.hid (fnW_pop m next X l')
            have hxm : X < 16 := by have := hris.2 X (by simp); omega
            obtain ⟨k, hk⟩ : ∃ k, k = l'.length := ⟨_, rfl⟩
            have hkl : (l' ++ [(X : Int)]).length = k + 1 := by simp [hk]
            obtain ⟨b, cap, hv, hB, hbw⟩ := hown.nonnil k hkl
            subst hv
            simp only [Value.slice.injEq] at hve
            obtain ⟨-, -, hce⟩ := hve
            rw [hkl] at hlen hcv e0 hd
            have hcell : w'.cell? ⟨b, k, none⟩ = some (.int .i64 X) := by
              have := (hown.spot hkl.symm k (by omega)).1
              rw [this]; simp [nth, hk]
            have HP := Lib.hid (hown.pop hk.symm)
            have HC := Lib.hid hc
            have HS := Lib.hid hst
            have HN := Lib.hid hn
            have hcap : k + 1 ≤ cap := by omega
            clear hc hst hn hp hls hown hx hI hce hkl hk
            go_wp2_with (first
              | (go_at_call 73; refine HS.out.mono ?_; rintro e w' ⟨rfl, rfl⟩)
              | (go_at_fn g; refine HC.out.mono ?_; rintro e w2 ⟨rfl, hb2⟩; have hcell := (hb2.cell (p := ⟨b, k, none⟩) hbw).trans hcell))
            have hbl2 := hbl.trans (hb2.mono hbl.size)
            have hP2 := HP.out.later hb2
            go_step3
            exact ⟨⟨_, rfl⟩, fnW m (X + 1) l' + 1, by rw [HN.out]; have := hW.out; omega, Or.inl ⟨rfl, _, _, _, _, _, _, _, _, _, _, _, _, _, _, _, _, _, _, _, _, _, _, _, _, _, _, _, _, _, _, _, _, _, _, _, _, _, _, _, _, _, _, _, _, _, l', X + 1, rfl, by go_num, rfl, hpop.out, hP2, hbl2⟩⟩
      · have hb0 : ((d : Int) == 0) = false := by rw [beq_eq_false_iff_ne]; omega
        have hdp : (0 : Int) < d := by omega
        have hls : l.length < size := by omega
        by_cases hfit : next + d ≤ m
        · have hpush := Lib.hid (hI.push hls (by omega))
          have hW := Lib.hid (fnW_push (l := l) (show next < m by omega))
          have hfi : (next : Int) + (d : Int) ≤ (m : Int) := by omega
          have hl16 : l.length ≤ 16 := by omega
          obtain ⟨k, hk⟩ : ∃ k, k = l.length := ⟨_, rfl⟩
          rw [← hk] at hve e0
          subst hve
          have hsz := hbl.size
          have HN := Lib.hid hn
          have HO := Lib.hid hown
          have hd16 : d ≤ 16 := by omega
          clear hst hn hls hd hk hlen hown hI hfit
          go_wp2_with (at_builtin; refine append_int rfl _ _ rfl w.heap.size _ l (next : Int) w'.heap.size rfl rfl (HO.out.alloc _) (new_cell _ _ _) (by omega) (by simp; omega) ?_; intro v2 w2 hown2 hgrow2)
          go_step3
          exact ⟨⟨_, rfl⟩, fnW m (next + 1) (l ++ [(next : Int)]) + 1, by rw [HN.out]; have := hW.out; omega, Or.inl ⟨rfl, _, _, _, _, _, _, _, _, _, _, _, _, _, _, _, _, _, _, _, _, _, _, _, _, _, _, _, _, _, _, _, _, _, _, _, _, _, _, _, _, _, _, _, _, _, l ++ [(next : Int)], next + 1, rfl, by go_num, rfl, hpush.out, hown2, (hbl.alloc hsz _).grown hgrow2 (by simp; omega) (fun j hj => (HO.out.lt j hj).1)⟩⟩
        · have hfi : ¬ (next : Int) + (d : Int) ≤ (m : Int) := by omega
          have hd16 : d ≤ 16 := by omega
          have hx : Hid ((l.length = size ∧ P l = false) ∨ (l.length < size ∧ m < next + (size - l.length))) := Lib.hid (.inr ⟨hls, by omega⟩)
          clear hls hfit
          rcases nil_or_snoc l with rfl | ⟨l', x, rfl⟩
          · have hN := Lib.hid (hI.none (by simpa using hx.out))
            have HS := Lib.hid hst
            have HN := Lib.hid hn
            have HV : v = .slice none 0 0 ∨ ∃ b c, v = .slice (some ⟨b, 0, none⟩) 0 c := by
              rcases hown.cases with ⟨h, -⟩ | ⟨b, c, h, -⟩
              · exact .inl h
              · exact .inr ⟨b, c, h⟩
            clear hst hn hown hve hx hI
            obtain rfl : d = size := by simpa using hd
            clear e0 hd hlen
            rcases HV with rfl | ⟨b, c, rfl⟩
            all_goals
              go_wp2
              have hbl2 := hbl
              simp only [Exit.jumps]
              go_ret2
              exact FnPost.none hN.out hbl2
          · obtain ⟨X, hX⟩ : ∃ X : Nat, x = (X : Int) := ⟨x.toNat, by have := hris.2 x (by simp); omega⟩
            subst hX
            have hpop := Lib.hid (hI.pop (by simpa using hx.out))
            have hW := Lib.hid (fnW_pop m next X l')
            have hxm : X < 16 := by have := hris.2 X (by simp); omega
            obtain ⟨k, hk⟩ : ∃ k, k = l'.length := ⟨_, rfl⟩
            have hkl : (l' ++ [(X : Int)]).length = k + 1 := by simp [hk]
            obtain ⟨b, cap, hv, hB, hbw⟩ := hown.nonnil k hkl
            subst hv
            simp only [Value.slice.injEq] at hve
            obtain ⟨-, -, hce⟩ := hve
            rw [hkl] at hlen hcv e0 hd
            have hcell : w'.cell? ⟨b, k, none⟩ = some (.int .i64 X) := by
              have := (hown.spot hkl.symm k (by omega)).1
              rw [this]; simp [nth, hk]
            have HP := Lib.hid (hown.pop hk.symm)
            have HS := Lib.hid hst
            have HN := Lib.hid hn
            have hcap : k + 1 ≤ cap := by omega
            clear hst hn hown hx hI hce hkl hk
            go_wp2
            have hbl2 := hbl
            have hP2 := HP.out
            go_step3
            exact ⟨⟨_, rfl⟩, fnW m (X + 1) l' + 1, by rw [HN.out]; have := hW.out; omega, Or.inl ⟨rfl, _, _, _, _, _, _, _, _, _, _, _, _, _, _, _, _, _, _, _, _, _, _, _, _, _, _, _, _, _, _, _, _, _, _, _, _, _, _, _, _, _, _, _, _, _, l', X + 1, rfl, by go_num, rfl, hpop.out, hP2, hbl2⟩⟩
    · cases hlb
  · intro n lb rest a' w' hne hfl hJ
    rcases hJ with ⟨rfl, -⟩ | ⟨rfl, hn, v, nx, u10, u11, u12, u13, u14, u15, u16, u17, u18, u19, u20, u21, u22, u23, u24, u25, u26, u27, u28, u29, u30, u31, u32, u33, u34, u35, u36, u37, u38, u39, u40, u41, u42, u43, u44, u45, u46, u47, u48, u49, u50, u51, u52, l, rfl, hF, hown, hbl⟩
    · exact absurd rfl hne
    · have hrest := Option.some.inj ((show findLabel _ 1 = some _ from rfl).symm.trans hfl)
      subst hrest
      clear hfl hn
      have HO := Lib.hid hown
      have HF2 := Lib.hid hF
      obtain ⟨av, cv, rfl⟩ := hown.rd.len
      clear hown hF
      go_wp2
      simp only [Exit.jumps]
      go_ret2
      exact FnPost.some HF2.out HO.out hbl
end Go.Proofs.Ytpmdjdlojbpcfaa
