/- Chapter 3: the signals of phrases, one after the other. Written by a generator of this claim's author. -/
import Derived.Test.YtpogpehbkgjiaaaSpT
import Derived.Test.YtpogpehbkgjiaaaSpC
import Derived.Test.YtpogpehbkgjiaaaApp
namespace Go.Proofs.Ytpogpehbkgjiaaa
open Go.RowKit
set_option linter.unusedSimpArgs false
set_option linter.unusedVariables false

/-- The signals of phrases, one after the other. -/
def sgL (ps : List Ph) (l : List Int) : List Int := l.flatMap fun i => (phAt ps i.toNat).sig
theorem sgL_snoc (ps : List Ph) (l : List Int) (i : Int) : sgL ps (l ++ [i]) = sgL ps l ++ (phAt ps i.toNat).sig := by simp [sgL]
theorem sgL_cons (ps : List Ph) (l : List Int) (i : Int) : sgL ps (i :: l) = (phAt ps i.toNat).sig ++ sgL ps l := by simp [sgL]
theorem sgL_take (ps : List Ph) (l : List Int) (k : Nat) (hk : k < l.length) : sgL ps (l.take (k + 1)) = sgL ps (l.take k) ++ (phAt ps (l[k]?.getD 0).toNat).sig := by
  rw [List.take_succ_eq_append_getElem hk, sgL_snoc]; simp [hk]
theorem sgL_len {ps : List Ph} (hb : bookB ps = true) : ∀ l : List Int, (∀ k, k < l.length → 0 ≤ l[k]?.getD 0 ∧ l[k]?.getD 0 < (ps.length : Int)) → (sgL ps l).length ≤ 3 * l.length
  | [], _ => by simp [sgL]
  | i :: l, h => by
    have h1 := sgL_len hb l fun k hk => by simpa using h (k + 1) (by simpa using hk)
    have h0 := h 0 (by simp)
    simp at h0
    have h2 := (book_sig hb (i := i.toNat) (by omega)).2
    rw [sgL_cons, List.length_append, List.length_cons]
    omega
theorem sgL_size {ps : List Ph} {l : List Int} (hb : bookB ps = true) (hin : ∀ k, k < l.length → 0 ≤ l[k]?.getD 0 ∧ l[k]?.getD 0 < (ps.length : Int)) (hl : l.length ≤ 60) (k : Nat) : (sgL ps (l.take k)).length ≤ 180 := by
  have h := sgL_len hb (l.take k) fun j hj => by
    rw [List.length_take] at hj
    rw [List.getElem?_take, if_pos (by omega)]
    exact hin j (by omega)
  have h3 : (l.take k).length ≤ 60 := by simp; omega
  omega

set_option maxHeartbeats 1000000 in
theorem joinedSignals_any (v u : Value) (ps : List Ph) (l : List Int) (w : World) (hr : RdPs w v ps) (hu : RdC w u l) (hbk : bookB ps = true) (hin : ∀ k, k < l.length → 0 ≤ l[k]?.getD 0 ∧ l[k]?.getD 0 < (ps.length : Int)) (hl : l.length ≤ 60) :
    Calls Try.prog 59 #[.agg #[v], u] w fun e w' => ∃ v', e = .returned v' ∧ Own w' w.heap.size v' (sgL ps l) ∧ Below w.heap.size w w' := by
  obtain ⟨a, cap, rfl, -⟩ := hr.len
  obtain ⟨-, au, cu, rfl, hcu⟩ := id hu
  obtain ⟨n, hn⟩ : ∃ n, n = l.length := ⟨_, rfl⟩
  obtain ⟨np, hnp⟩ : ∃ np, np = ps.length := ⟨_, rfl⟩
  have HN := Lib.hid hn
  have HNP := Lib.hid hnp
  have HIN := Lib.hid hin
  have HSZ := Lib.hid (sgL_size hbk hin hl)
  have HSG : Hid (∀ i, i < ps.length → (phAt ps i).sig.length ≤ 3) := Lib.hid fun i hi => (book_sig hbk hi).2
  have hb0 := (Below.refl w.heap.size w).alloc (Nat.le_refl _) (.cells #[.slice a ps.length cap] 31)
  have HR := Lib.hid (hr.later hb0)
  have HU := Lib.hid (hu.later hb0)
  have hx0 : (w.alloc (.cells #[.slice a ps.length cap] 31)).cell? ⟨w.heap.size, 0, none⟩ = some (.slice a ps.length cap) := by simp [go_sem]
  have hsz0 : w.heap.size < (w.alloc (.cells #[.slice a ps.length cap] 31)).heap.size := by simp
  rw [← hn] at hcu hl HU ⊢
  rw [← hnp] at hb0 hx0 HR HU hsz0 ⊢
  clear hn hnp hr hu hin hbk
  go_enter Try.func59, Try.ntmps59
  go_wp2
  generalize w.alloc (.cells #[.slice a np cap] 31) = W at *
  go_loopw [5, 10] (fun ov i wr => ∃ k : Nat, k ≤ n ∧ i = .int .i64 k ∧ Own wr W.heap.size ov (sgL ps (l.take k)) ∧ Below W.heap.size W wr) (fun _ i _ => n - (intOf i).toNat)
  case atStart => exact ⟨0, Nat.zero_le _, rfl, Own.nil _ _, Below.refl _ _⟩
  case round =>
    obtain ⟨k, hk, rfl, hown, hbl⟩ := hrel
    have hszl := hbl.size
    by_cases hlt : k < n
    · obtain ⟨gu, ou, hau, hgu, hcz⟩ := (HU.out.below hbl (Nat.le_refl _)).rd.at_ HN.out k hlt
      subst hau
      obtain ⟨h1, h2⟩ := HIN.out k (by rw [← HN.out]; exact hlt)
      obtain ⟨z, hz⟩ : ∃ z, z = l[k]?.getD 0 := ⟨_, rfl⟩
      have HZ := Lib.hid hz
      rw [← hz] at h1 h2 hcz
      rw [← HNP.out] at h2
      obtain ⟨i, rfl⟩ : ∃ i : Nat, z = i := ⟨z.toNat, by omega⟩
      obtain ⟨g, off, us, hag, hg, hts, hd0, hd1, hru⟩ := (HR.out.below hbl (Nat.le_refl _)).at_ HNP.out i (by omega)
      subst hag
      obtain ⟨ua, uc, rfl⟩ := hru.rd.len
      have HST : Hid (sgL ps (l.take (k + 1)) = sgL ps (l.take k) ++ (phAt ps i).sig) := Lib.hid (by rw [sgL_take ps l k (by rw [← HN.out]; exact hlt), ← HZ.out]; rfl)
      have HLE : Hid ((sgL ps (l.take k)).length + (phAt ps i).sig.length ≤ 1099511627776) := Lib.hid (by have h1 := HSZ.out k; have h2 := HSG.out i (by rw [← HNP.out]; omega); omega)
      have hxw := hx0 ▸ hbl.cell (p := ⟨w.heap.size, 0, none⟩) hsz0
      have hsz3 : W.heap.size ≤ wr.heap.size := by omega
      obtain ⟨ml, hml⟩ : ∃ ml, ml = (phAt ps i).sig.length := ⟨_, rfl⟩
      have HML := Lib.hid hml
      have hrd := hru.rd
      rw [← hml] at hd1 hrd
      clear hz hml hru
      go_wp2_with (at_builtin; refine append_ints rfl _ _ rfl (W.heap.size) _ (sgL ps (l.take k)) (phAt ps i).sig _ rfl rfl hown hrd HLE.out hsz3 ?_; intro v' w2 hown2 hgrow2)
      go_roundw
      case rel => exact ⟨k + 1, by omega, by go_num, by rw [HST.out]; exact hown2, hbl.grown hgrow2 hbl.size (fun j hj => by have := (hown.lt j hj).1; omega)⟩
      case measure => simp [intOf]; omega
    · obtain rfl : k = n := by omega
      have HE : Hid (l.take k = l) := Lib.hid (by rw [HN.out, List.take_length])
      rw [HE.out] at hown
      go_wp2
      go_ret
      exact ⟨_, rfl, hown.base hb0.size, hb0.trans (hbl.mono hb0.size)⟩
end Go.Proofs.Ytpogpehbkgjiaaa
