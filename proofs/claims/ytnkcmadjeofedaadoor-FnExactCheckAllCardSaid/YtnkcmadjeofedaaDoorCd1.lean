/- Chapter 5: a word corrected, by both sides. -/
import Derived.Test.YtnkcmadjeofedaaDoorCk4
namespace Go.Proofs.YtnkcmadjeofedaaDoor
open Go.RowKit
set_option linter.unusedSimpArgs false
set_option linter.unusedVariables false

/-- The program's table of inverses lies where its variable lies. -/
def Tb (w : World) : Prop := 0 < w.heap.size ∧ ∀ i, i < 61 → w.cell? ⟨0, i, none⟩ = some (.int .i64 (nth invs i))
theorem Tb.below {w w' : World} {C : Nat} (h : Tb w) (hb : Below C w w') (hC : w.heap.size ≤ C) : Tb w' := by
  obtain ⟨h0, h1⟩ := h
  refine ⟨Nat.lt_of_lt_of_le h0 hb.size, fun i hi => ?_⟩
  rw [hb.cell (p := ⟨0, i, none⟩) (Nat.lt_of_lt_of_le h0 hC)]
  exact h1 i hi
theorem Tb.later {w w' : World} (h : Tb w) (hb : Below w.heap.size w w') : Tb w' := h.below hb (Nat.le_refl _)

theorem divide_any (a : Nat) (b : Int) (w : World) (hT : Tb w) (a1 : a ≤ 60) (b0 : 0 ≤ b) (b1 : b ≤ 60) :
    Calls Tryd.prog 25 #[.int .i64 a, .int .i64 b] w fun e w' => e = .returned (.int .i64 (quo b a)) ∧ w = w' := by
  have q := hT.2 a (by omega)
  have hv := invs_bd ⟨a, by omega⟩
  have e : quo b (a : Int) = b * nth invs a % 61 := by unfold quo; simp
  have HE := Lib.hid e
  clear e
  simp only at hv
  obtain ⟨x, hx⟩ : ∃ x, x = nth invs a := ⟨_, rfl⟩
  rw [← hx] at q hv HE
  have d := mul_bd b0 b1 hv.1 hv.2
  clear hx hT
  go_enter Tryd.func25, Tryd.ntmps25
  go_wp2
  go_ret
  exact ⟨ret_int HE.out.symm, rfl⟩

theorem corB_not {zs : List Int} (h : ckB 50 zs = false) : corB zs = false := by simp [corB, h]
theorem corL_not {zs : List Int} (h : ckB 50 zs = false) : corL zs = [] := by simp [corL, h]
theorem corB_held {zs : List Int} (h : ckB 50 zs = true) (h' : hldB zs = true) : corB zs = true := by simp [corB, h, h']
theorem corL_held {zs : List Int} (h : ckB 50 zs = true) (h' : hldB zs = true) : corL zs = zs := by simp [corL, h, h']
theorem corB_fix {zs : List Int} (h : ckB 50 zs = true) (h' : fixB zs = true) : corB zs = true := by simp [corB, h, h']
theorem corL_fix {zs : List Int} (h : ckB 50 zs = true) (h0 : hldB zs = false) (h' : fixB zs = true) : corL zs = fixL zs := by simp [corL, h, h0, h']
theorem corB_none {zs : List Int} (h0 : hldB zs = false) (h' : fixB zs = false) : corB zs = false := by simp [corB, h0, h']
theorem corL_none {zs : List Int} (h0 : hldB zs = false) (h' : fixB zs = false) : corL zs = [] := by simp [corL, h0, h']

set_option maxRecDepth 100000 in
set_option maxHeartbeats 1000000 in
theorem implCorrect_any (v : Value) (zs : List Int) (w : World) (hr : Rd w v zs) (hT : Tb w) :
    Calls Tryd.prog 7 #[v] w fun e w' => ∃ v', e = .returned (.tuple #[v', .bool (corB zs)]) ∧ OwnI w' w.heap.size w'.heap.size v' (corL zs) ∧ Below w.heap.size w w' := by
  have hm := hr.max
  unfold maxLen at hm
  obtain ⟨a, cap, hv⟩ := hr.len
  have HR := Lib.hid hr
  clear hr
  subst hv
  cases hw : ckB 50 zs with
  | false =>
    go_enter Tryd.func7, Tryd.ntmps7
    go_wp2_with (first
      | (go_at_call 21; refine (isCheckedWord_any _ zs _ HR.out).mono ?_; rintro e w' ⟨rfl, rfl⟩))
    go_ret2
    exact ⟨_, by rw [corB_not hw]; rfl, by rw [corL_not hw]; exact (Own.nil _ _).iv, Below.refl _ _⟩
  | true =>
    have hl := ckB_len hw
    have hab := sA_bd zs
    have hbb := sB_bd zs
    have HT := Lib.hid hT
    clear hT
    go_enter Tryd.func7, Tryd.ntmps7
    go_wp2_with (first
      | (go_at_call 21; refine (isCheckedWord_any _ zs _ HR.out).mono ?_; rintro e w' ⟨rfl, rfl⟩)
      | (go_at_call 22; refine (clone_any _ zs _ (by omega) HR.out).mono ?_; rintro e w1 ⟨v1, rfl, ho1, hb1⟩)
      | fail)
    have z1 := hb1.size
    have hR1 := Lib.hid (HR.out.later hb1)
    have hT1 := Lib.hid (HT.out.later hb1)
    refine (holds_i _ zs _ hR1.out hw).mono ?_
    rintro e w' ⟨rfl, rfl⟩
    cases hh : hldB zs with
    | true =>
      go_wp2
      go_ret2
      exact ⟨_, by rw [corB_held hw hh]; rfl, by rw [corL_held hw hh]; exact ho1.iv, hb1⟩
    | false =>
      obtain ⟨A, hA⟩ : ∃ A : Nat, (A : Int) = sA zs := ⟨(sA zs).toNat, by omega⟩
      obtain ⟨P, hP⟩ : ∃ P : Int, P = quo (sB zs) A := ⟨_, rfl⟩
      have hPp : P = plc zs := by rw [hP, hA]; rfl
      have hPb : 0 ≤ P ∧ P ≤ 60 := by rw [hP]; exact quo_bd _ _
      have HP := Lib.hid hP
      have HPP := Lib.hid hPp
      have HA := Lib.hid hA
      have hA1 : A ≤ 60 := by omega
      cases hf : fixB zs with
      | false =>
        have hfo : inB P 1 zs.length = false := by rw [hPp]; exact hf
        have hfo' : P < 1 ∨ (zs.length : Int) < P := by
          have := fun h0 h1 => hfo ▸ inB_yes (n := P) (lo := 1) (hi := zs.length) h0 h1
          by_cases h1 : 1 ≤ P
          · by_cases h2 : P ≤ zs.length
            · have := this h1 h2; cases this
            · omega
          · omega
        clear hP hPp hfo hA
        rcases hfo' with hlo | hhi
        · go_wp2_with (first
            | (go_at_call 24; refine (syndromes_any _ zs _ hR1.out hw).mono ?_; rintro e w' ⟨rfl, rfl⟩; rw [← HA.out])
            | (go_at_call 25; refine (divide_any A _ _ hT1.out hA1 hbb.1 hbb.2).mono ?_; rintro e w' ⟨rfl, rfl⟩; rw [← HP.out]))
          go_ret2
          exact ⟨_, by rw [corB_none hh hf]; rfl, by rw [corL_none hh hf]; exact (Own.nil _ _).iv, hb1⟩
        · have hlo : ¬ P < 1 := by omega
          go_wp2_with (first
            | (go_at_call 24; refine (syndromes_any _ zs _ hR1.out hw).mono ?_; rintro e w' ⟨rfl, rfl⟩; rw [← HA.out])
            | (go_at_call 25; refine (divide_any A _ _ hT1.out hA1 hbb.1 hbb.2).mono ?_; rintro e w' ⟨rfl, rfl⟩; rw [← HP.out]))
          go_ret2
          exact ⟨_, by rw [corB_none hh hf]; rfl, by rw [corL_none hh hf]; exact (Own.nil _ _).iv, hb1⟩
      | true =>
        have hfo := inB_iff.1 hf
        rw [← hPp] at hfo
        obtain ⟨K, hK⟩ : ∃ K : Nat, P = (K : Int) + 1 := ⟨(P - 1).toNat, by omega⟩
        have hKl : K < zs.length := by omega
        obtain ⟨n, hn⟩ : ∃ n, n = zs.length := ⟨_, rfl⟩
        obtain ⟨g, cp, hv1, hgB, hgs⟩ := ho1.nonnil (zs.length - 1) (by omega)
        have el : zs.length - 1 + 1 = n := by omega
        rw [el] at hv1
        subst hv1
        obtain ⟨cK, fK⟩ := ho1.spot hn K (by omega)
        have hfx : fixL zs = zs.set K (sgn (nth zs K - sA zs)) := by
          unfold fixL
          rw [← hPp, hK]
          have : ((K : Int) + 1 - 1).toNat = K := by omega
          rw [this]
        obtain ⟨p1, g1⟩ := ho1.put hn K (sgn (nth zs K - sA zs))
        rw [← hfx] at p1
        obtain ⟨gz, oz, ea, hgz, qK⟩ := HR.out.at_ rfl K hKl
        subst ea
        have rK : w1.cell? ⟨gz, oz + K, none⟩ = some (.int .i64 (nth zs K)) := by rw [hb1.cell (p := ⟨gz, oz + K, none⟩) hgz]; exact qK
        have hzK := ckB_get hw K hKl
        have hbz := hb1.grown g1 z1 (fun j hj => by cases hj; exact hgB)
        have e1 : P - 1 = (K : Int) := by omega
        obtain ⟨x, hx⟩ : ∃ x, x = nth zs K := ⟨_, rfl⟩
        rw [← hx, ← hA] at p1 hbz
        rw [← hx] at rK hzK
        have HO := Lib.hid p1
        have HB := Lib.hid hbz
        have hKn : K < n := by omega
        have hns : n ≤ 50 := by omega
        have hPl : P ≤ zs.length := by omega
        subst hK
        clear p1 hbz hx hP hPp hA hn hfx g1 el ho1 hb1 hfo qK
        go_wp2_with (first
          | (go_at_call 24; refine (syndromes_any _ zs _ hR1.out hw).mono ?_; rintro e w' ⟨rfl, rfl⟩; rw [← HA.out])
          | (go_at_call 25; refine (divide_any A _ _ hT1.out hA1 hbb.1 hbb.2).mono ?_; rintro e w' ⟨rfl, rfl⟩; rw [← HP.out])
          | (go_at_call 26; refine (signalOf_any _ _).mono ?_; rintro e w' ⟨rfl, rfl⟩))
        go_ret2
        exact ⟨_, by rw [corB_fix hw hf]; rfl, by rw [corL_fix hw hh hf]; exact HO.out.iv, HB.out⟩

set_option maxRecDepth 100000 in
set_option maxHeartbeats 1000000 in
theorem specCorrect_any (v : Value) (zs : List Int) (w : World) (hr : Rd w v zs) :
    Calls Tryd.prog 5 #[v] w fun e w' => ∃ v', e = .returned (.tuple #[v', .bool (corB zs)]) ∧ OwnI w' w.heap.size w'.heap.size v' (corL zs) ∧ Below w.heap.size w w' := by
  have hm := hr.max
  unfold maxLen at hm
  obtain ⟨a, cap, hv⟩ := hr.len
  have HR := Lib.hid hr
  clear hr
  subst hv
  cases hw : ckB 50 zs with
  | false =>
    go_enter Tryd.func5, Tryd.ntmps5
    go_wp2_with (first
      | (go_at_call 17; refine (ckWord_any _ zs 50 _ HR.out).mono ?_; rintro e w' ⟨rfl, rfl⟩))
    go_ret2
    exact ⟨_, by rw [corB_not hw]; rfl, by rw [corL_not hw]; exact (Own.nil _ _).iv, Below.refl _ _⟩
  | true =>
    have hl := ckB_len hw
    have hab := sA_bd zs
    have hbb := sB_bd zs
    have HL := Lib.hid (fun k hk => ckB_get hw k hk)
    obtain ⟨A, hA⟩ : ∃ A, A = sA zs := ⟨_, rfl⟩
    obtain ⟨B, hB⟩ : ∃ B, B = sB zs := ⟨_, rfl⟩
    rw [← hA] at hab
    rw [← hB] at hbb
    have HA := Lib.hid hA
    have HB := Lib.hid hB
    clear hA hB
    cases hh : hldB zs with
    | true =>
      have h0 : (A == 0) = true ∧ (B == 0) = true := by
        have := hh
        simp only [hldB, Bool.and_eq_true] at this
        rw [HA.out, HB.out]; exact this
      obtain ⟨h0, h1⟩ := h0
      go_enter Tryd.func5, Tryd.ntmps5
      go_wp2_with (first
        | (go_at_call 17; refine (ckWord_any _ zs 50 _ HR.out).mono ?_; rintro e w' ⟨rfl, rfl⟩)
        | (go_at_call 18; refine (ckSum_any _ zs _ HR.out hw).mono ?_; rintro e w' ⟨rfl, rfl⟩; rw [← HA.out, ← HB.out])
        | (go_at_call 19; refine (l1Own_any _ zs _ (by omega) HR.out).mono ?_; rintro e w1 ⟨v1, rfl, ho1, hb1⟩))
      go_ret2
      exact ⟨_, by rw [corB_held hw hh]; rfl, by rw [corL_held hw hh]; exact ho1.iv, hb1⟩
    | false =>
      have h01 : ((A == 0) = true ∧ (B == 0) = false) ∨ (A == 0) = false := by
        have := hh
        simp only [hldB, Bool.and_eq_false_iff] at this
        rw [HA.out, HB.out]
        cases h : (sA zs == 0) with
        | true => rw [h] at this; rcases this with h | h; (· cases h); exact .inl ⟨rfl, h⟩
        | false => exact .inr rfl
      have FIN : Hid ((∀ i, i < zs.length → hitB zs i = false) → corB zs = false ∧ corL zs = []) := Lib.hid fun h => ⟨corB_none hh (no_fix hw h), corL_none hh (no_fix hw h)⟩
      have HIT : Hid (∀ k, k < zs.length → hitB zs k = true → corB zs = true ∧ corL zs = zs.set k (sgn (nth zs k - A))) := Lib.hid fun k hk h => by
        obtain ⟨f1, f2⟩ := fix_of_hit hw hk h
        exact ⟨corB_fix hw f1, by rw [corL_fix hw hh f1, f2, HA.out]⟩
      have DEF : Hid (∀ k, hitB zs k = (!(A == 0) && (((k : Int) + 1) * A % 61 == B))) := Lib.hid fun k => by unfold hitB; rw [HA.out, HB.out]
      rcases h01 with ⟨h0, h1⟩ | h0
      · have h0' : (A != 0) = false := by simpa [bne] using h0
        obtain ⟨n, hn⟩ : ∃ n, n = zs.length := ⟨_, rfl⟩
        rw [← hn] at hl hm
        rw [← hn] at HR ⊢
        have HN := Lib.hid hn
        clear hn
        go_enter Tryd.func5, Tryd.ntmps5
        go_wp2_with (first
          | (go_at_call 17; refine (ckWord_any _ zs 50 _ HR.out).mono ?_; rintro e w' ⟨rfl, rfl⟩)
          | (go_at_call 18; refine (ckSum_any _ zs _ HR.out hw).mono ?_; rintro e w' ⟨rfl, rfl⟩; rw [← HA.out, ← HB.out]))
        go_loopw [27] (fun i wr => ∃ k : Nat, k ≤ n ∧ i = .int .i64 k ∧ w = wr ∧ Hid (∀ j, j < k → hitB zs j = false)) (fun i wr => n - (intOf i).toNat)
        case atStart => exact ⟨0, Nat.zero_le _, rfl, rfl, Lib.hid fun j hj => by omega⟩
        case round =>
          obtain ⟨k, hk, rfl, rfl, hall⟩ := hrel
          by_cases hlt : k < n
          · obtain ⟨gz, oz, ea, hgz, qK⟩ := HR.out.at_ HN.out k hlt
            subst ea
            have hx : zs[k]?.getD 0 = nth zs k := rfl
            rw [hx] at qK
            have hz := HL.out k (by rw [← HN.out]; exact hlt)
            have dm := mul_bd (a := (k : Int) + 1) (A := 50) (by omega) (by omega) hab.1 hab.2
            have hmiss : hitB zs k = false := by rw [DEF.out, h0]; rfl
            have hall' : Hid (∀ j, j < k + 1 → hitB zs j = false) := Lib.hid fun j hj => by
              by_cases e : j = k
              · rw [e]; exact hmiss
              · exact hall.out j (by omega)
            clear hmiss
            obtain ⟨x, hxe⟩ : ∃ x, x = nth zs k := ⟨_, rfl⟩
            rw [← hxe] at qK hz
            clear hx hxe
            go_wp2
            go_roundw
            case rel => exact ⟨k + 1, by omega, by go_num, trivial, hall'⟩
            case measure => simp [intOf]; omega
          · have hf := Lib.hid (FIN.out fun i hi => hall.out i (by have := HN.out; omega))
            go_wp2
            go_ret2
            exact ⟨_, by rw [hf.out.1]; rfl, by rw [hf.out.2]; exact (Own.nil _ _).iv, Below.refl _ _⟩
      · have h0' : (A != 0) = true := by simpa [bne] using h0
        obtain ⟨n, hn⟩ : ∃ n, n = zs.length := ⟨_, rfl⟩
        rw [← hn] at hl hm
        rw [← hn] at HR ⊢
        have HN := Lib.hid hn
        clear hn
        go_enter Tryd.func5, Tryd.ntmps5
        go_wp2_with (first
          | (go_at_call 17; refine (ckWord_any _ zs 50 _ HR.out).mono ?_; rintro e w' ⟨rfl, rfl⟩)
          | (go_at_call 18; refine (ckSum_any _ zs _ HR.out hw).mono ?_; rintro e w' ⟨rfl, rfl⟩; rw [← HA.out, ← HB.out]))
        go_loopw [27] (fun i wr => ∃ k : Nat, k ≤ n ∧ i = .int .i64 k ∧ w = wr ∧ Hid (∀ j, j < k → hitB zs j = false)) (fun i wr => n - (intOf i).toNat)
        case atStart => exact ⟨0, Nat.zero_le _, rfl, rfl, Lib.hid fun j hj => by omega⟩
        case round =>
          obtain ⟨k, hk, rfl, rfl, hall⟩ := hrel
          by_cases hlt : k < n
          · obtain ⟨gz, oz, ea, hgz, qK⟩ := HR.out.at_ HN.out k hlt
            subst ea
            have hx : zs[k]?.getD 0 = nth zs k := rfl
            rw [hx] at qK
            have hz := HL.out k (by rw [← HN.out]; exact hlt)
            have dm := mul_bd (a := (k : Int) + 1) (A := 50) (by omega) (by omega) hab.1 hab.2
            cases hq : (((k : Int) + 1) * A % 61 == B) with
            | false =>
              have hmiss : hitB zs k = false := by rw [DEF.out, h0, hq]; rfl
              have hall' : Hid (∀ j, j < k + 1 → hitB zs j = false) := Lib.hid fun j hj => by
                by_cases e : j = k
                · rw [e]; exact hmiss
                · exact hall.out j (by omega)
              clear hmiss
              obtain ⟨x, hxe⟩ : ∃ x, x = nth zs k := ⟨_, rfl⟩
              rw [← hxe] at qK hz
              clear hx hxe
              go_wp2
              go_roundw
              case rel => exact ⟨k + 1, by omega, by go_num, trivial, hall'⟩
              case measure => simp [intOf]; omega
            | true =>
              obtain ⟨f1, f2⟩ := HIT.out k (by rw [← HN.out]; exact hlt) (by rw [DEF.out, h0, hq]; rfl)
              have F1 := Lib.hid f1
              have F2 := Lib.hid f2
              clear f1 f2
              obtain ⟨x, hxe⟩ : ∃ x, x = nth zs k := ⟨_, rfl⟩
              rw [← hxe] at qK hz F2
              clear hx hxe
              go_wp2_with fail
              refine (l1Own_any _ zs _ (by have := HN.out; omega) HR.out).mono ?_
              rintro e w1 ⟨v1, rfl, ho1, hb1⟩
              obtain ⟨g, cp, hv1, hgB, hgs⟩ := ho1.nonnil (zs.length - 1) (by have := HN.out; omega)
              have el : zs.length - 1 + 1 = n := by have := HN.out; omega
              rw [el] at hv1
              subst hv1
              obtain ⟨cK, fK⟩ := ho1.spot HN.out k hlt
              obtain ⟨p1, g1⟩ := ho1.put HN.out k (sgn (x - A))
              have hbz := hb1.grown g1 hb1.size (fun j hj => by cases hj; exact hgB)
              have HO := Lib.hid p1
              have HBZ := Lib.hid hbz
              clear p1 hbz g1 el ho1 hb1
              go_wp2_with (go_at_call 20; refine (ckSign_any _ _).mono ?_; rintro e w' ⟨rfl, rfl⟩)
              go_ret2
              exact ⟨_, by rw [F1.out]; rfl, by rw [F2.out]; exact HO.out.iv, HBZ.out⟩
          · have hf := Lib.hid (FIN.out fun i hi => hall.out i (by have := HN.out; omega))
            go_wp2
            go_ret2
            exact ⟨_, by rw [hf.out.1]; rfl, by rw [hf.out.2]; exact (Own.nil _ _).iv, Below.refl _ _⟩
end Go.Proofs.YtnkcmadjeofedaaDoor
