/- Chapter 3: the least list. -/
import Derived.Test.YtpogpehbkgjiaaaSp6
import Derived.Test.YtpogpehbkgjiaaaApp
namespace Go.Proofs.Ytpogpehbkgjiaaa
open Go.RowKit
set_option linter.unusedSimpArgs false
set_option linter.unusedVariables false

/-- L leads by the rests from a to the end. -/
inductive PathTo (r : Nat → Rst) (n : Nat) : Nat → List Int → Prop
  | done : PathTo r n n []
  | step {a : Nat} {l : List Int} : a < n → a < (r a).nx → (r a).nx ≤ n → PathTo r n (r a).nx l → PathTo r n a ((r a).ph :: l)
theorem PathTo.le {r : Nat → Rst} {n a : Nat} {l : List Int} (h : PathTo r n a l) : a ≤ n := by
  cases h with
  | done => exact Nat.le_refl _
  | step h1 => omega
theorem PathTo.len {r : Nat → Rst} {n a : Nat} {l : List Int} (h : PathTo r n a l) : l.length + a ≤ n := by
  induction h with
  | done => simp
  | step h1 h2 h3 h4 ih => simp; omega
theorem PathTo.at_end {r : Nat → Rst} {n : Nat} {l : List Int} (h : PathTo r n n l) : l = [] := by
  cases h with
  | done => rfl
  | step h1 => omega
theorem PathTo.go {r : Nat → Rst} {n a : Nat} {l : List Int} (h : PathTo r n a l) (ha : a < n) : a < (r a).nx ∧ (r a).nx ≤ n ∧ ∃ l', l = ((r a).ph : Int) :: l' ∧ PathTo r n (r a).nx l' := by
  cases h with
  | done => omega
  | step h1 h2 h3 h4 => exact ⟨h2, h3, _, rfl, h4⟩
def Leads (n : Nat) (r : Nat → Rst) : Prop := ∀ b, b < n → (r b).ex = true → b < (r b).nx ∧ (r b).nx ≤ n ∧ (r (r b).nx).ex = true
theorem path_exists {r : Nat → Rst} {n : Nat} (h : Leads n r) : ∀ d a, a ≤ n → n - a ≤ d → (r a).ex = true → ∃ l, PathTo r n a l
  | 0, a, ha, hd, he => by
    obtain rfl : a = n := by omega
    exact ⟨[], .done⟩
  | d + 1, a, ha, hd, he => by
    by_cases e : a = n
    · subst e; exact ⟨[], .done⟩
    · obtain ⟨h1, h2, h3⟩ := h a (by omega) he
      obtain ⟨l, hl⟩ := path_exists h d (r a).nx h2 (by omega) h3
      exact ⟨_, .step (by omega) h1 h2 hl⟩
theorem stepR_leads {ps : List Ph} {r : Nat → Rst} {acc : Rst} {x : St} {n a : Nat} (hx : a < x.2 ∧ x.2 ≤ n) (h : acc.ex = true → a < acc.nx ∧ acc.nx ≤ n ∧ (r acc.nx).ex = true) :
    (stepR ps r acc x).ex = true → a < (stepR ps r acc x).nx ∧ (stepR ps r acc x).nx ≤ n ∧ (r (stepR ps r acc x).nx).ex = true := by
  unfold stepR
  split
  · next hc => exact fun _ => ⟨hx.1, hx.2, hc.1⟩
  · exact h
theorem foldR_leads {ps : List Ph} {r : Nat → Rst} {n a : Nat} (l : List St) (hl : ∀ x ∈ l, a < x.2 ∧ x.2 ≤ n) (acc : Rst) (h : acc.ex = true → a < acc.nx ∧ acc.nx ≤ n ∧ (r acc.nx).ex = true) :
    (l.foldl (stepR ps r) acc).ex = true → a < (l.foldl (stepR ps r) acc).nx ∧ (l.foldl (stepR ps r) acc).nx ≤ n ∧ (r (l.foldl (stepR ps r) acc).nx).ex = true := by
  induction l generalizing acc with
  | nil => exact h
  | cons x l ih =>
    simp only [List.foldl_cons]
    exact ih (fun y hy => hl y (by simp [hy])) _ (stepR_leads (hl x (by simp)) h)
theorem rests_lead {ps : List Ph} {n : Nat} {ss : Nat → List St} {r : Nat → Rst} (hR : Rests ps n ss r) (ha : Ahead n ss) : Leads n r := by
  intro b hb he
  rw [hR.2 b hb] at he ⊢
  exact foldR_leads (ss b) (ha b hb) noRst (fun h => by cases h) he
/-- The list that the rests lead along; none if there is none. -/
noncomputable def pathL (r : Nat → Rst) (n : Nat) : List Int := @dite _ (∃ l, PathTo r n 0 l) (Classical.propDecidable _) (fun h => Classical.choose h) (fun _ => [])
theorem pathL_is {ps : List Ph} {n : Nat} {ss : Nat → List St} {r : Nat → Rst} (hR : Rests ps n ss r) (ha : Ahead n ss) (h : (r 0).ex = true) : PathTo r n 0 (pathL r n) := by
  have hx := path_exists (rests_lead hR ha) n 0 (Nat.zero_le _) (Nat.sub_le _ _) h
  unfold pathL
  rw [dif_pos hx]
  exact Classical.choose_spec hx
theorem PathTo.unique {r : Nat → Rst} {n a : Nat} {l l' : List Int} (h : PathTo r n a l) (h' : PathTo r n a l') : l = l' := by
  induction h generalizing l' with
  | done => exact h'.at_end.symm
  | step h1 h2 h3 h4 ih =>
    obtain ⟨-, -, l2, rfl, h5⟩ := h'.go h1
    rw [ih h5]
def LeastPost (r : Nat → Rst) (L : List Int) (w : World) (e : Ending) (w' : World) : Prop := ∃ v, e = .returned (.tuple #[v, .bool (r 0).ex]) ∧ Own w' w.heap.size v (if (r 0).ex = true then L else []) ∧ Below w.heap.size w w'

set_option maxRecDepth 100000 in
set_option maxHeartbeats 2000000 in
theorem leastList_any (v u : Value) (ps : List Ph) (n : Nat) (ss : Nat → List St) (r : Nat → Rst) (L : List Int) (w : World) (hn : n ≤ 60) (hr : RdPs w v ps) (hu : RdSS w u n ss) (ha : Ahead n ss) (hin : Inside ps n ss) (hl : ∀ a, a < n → (ss a).length ≤ 40) (hp40 : ps.length ≤ 40) (hR : Rests ps n ss r)
    (hL : (r 0).ex = true → PathTo r n 0 L) :
    Calls Try.prog 53 #[.agg #[v], u] w (LeastPost r L w) := by
  obtain ⟨a0, cap, rfl, -⟩ := hr.len
  obtain ⟨gs, rfl, hgs⟩ := hu.v
  have hb0 := (Below.refl w.heap.size w).alloc (Nat.le_refl _) (.cells #[.slice a0 ps.length cap] 31)
  have HR := Lib.hid (hr.later hb0)
  have HS := Lib.hid (hu.later hb0)
  have HA := Lib.hid ha
  have HI := Lib.hid hin
  have HLn := Lib.hid hl
  have HF := Lib.hid hR
  have HP := Lib.hid hL
  clear hr hu ha hin hl hR hL
  go_enter Try.func53, Try.ntmps53
  go_wp2_with fail
  generalize w.alloc (.cells #[.slice a0 ps.length cap] 31) = W at *
  refine (leastRests_any _ _ ps n ss r _ hn HR.out HS.out HA.out HI.out HLn.out hp40 HF.out).mono ?_
  rintro e w1 ⟨g, rfl, hrow, hb1⟩
  have hB1 := hb0.trans (hb1.mono hb0.size)
  have hg1 := hrow.lt.2
  have HROW := Lib.hid hrow
  have hc0 := hrow.at_ 0 (by omega)
  have hc0' : w1.cell? ⟨g, 0, none⟩ = some (.bool (r 0).ex) := hc0
  obtain ⟨m, hm⟩ : ∃ m, m = n + 1 := ⟨_, rfl⟩
  have HM := Lib.hid hm
  have hm2 : (0 : Int) < (m : Int) := by omega
  rw [← hm] at hrow HROW ⊢
  clear hm hc0 hrow
  cases hex : (r 0).ex with
  | false =>
    rw [hex] at hc0'
    have hE := Lib.hid hex
    clear hex
    go_wp2
    go_ret2
    exact ⟨_, by rw [hE.out]; rfl, by rw [hE.out, if_neg (by simp)]; exact Own.nil _ _, hB1⟩
  | true =>
    rw [hex] at hc0'
    have hE := Lib.hid hex
    have HPATH := Lib.hid (HP.out hex)
    clear hex
    go_wp2
    go_loopw [7, 8] (fun vl i wr => ∃ (a : Nat) (l1 l2 : List Int), a ≤ n ∧ i = .int .i64 a ∧ Hid (L = l1 ++ l2) ∧ Hid (PathTo r n a l2) ∧ l1.length ≤ 60 ∧ Own wr w1.heap.size vl l1 ∧ Below w1.heap.size w1 wr) (fun _ i _ => n - (intOf i).toNat)
    case atStart => exact ⟨0, [], L, Nat.zero_le _, rfl, Lib.hid rfl, HPATH, by simp, Own.nil _ _, Below.refl _ _⟩
    case round =>
      obtain ⟨a, l1, l2, han, rfl, hl12, hpath, hl1, hown, hbl⟩ := hrel
      by_cases hlt : a < n
      · obtain ⟨hx1, hx2, l3, hl2, hp3⟩ := hpath.out.go hlt
        have hrw := HROW.out.below hbl (fun k hk => by cases hk; exact hg1)
        have c2 := hrw.at_ (a * 4 + 2) (by have := HM.out; omega)
        have c3 := hrw.at_ (a * 4 + 3) (by have := HM.out; omega)
        rw [restRow_at _ _ _ (by omega)] at c2 c3
        simp only [cRst] at c2 c3
        obtain ⟨xp, hxp⟩ : ∃ xp, xp = (r a).ph := ⟨_, rfl⟩
        obtain ⟨xe, hxe⟩ : ∃ xe, xe = (r a).nx := ⟨_, rfl⟩
        rw [← hxp] at c2
        rw [← hxe] at c3 hx1 hx2
        have HNX : Hid (L = (l1 ++ [(xp : Int)]) ++ l3) := Lib.hid (by rw [hl12.out, hl2, hxp]; simp)
        have HP3 : Hid (PathTo r n xe l3) := Lib.hid (by rw [hxe]; exact hp3)
        have haI : (a : Int) < (m : Int) := by have := HM.out; omega
        have hlI : (a : Int) < (n : Int) := by omega
        have hLL : (l1 ++ [(xp : Int)]).length ≤ 60 := by have := (HPATH.out).len; rw [HNX.out] at this; simp at this ⊢; omega
        have hcb : (wr.alloc (.cells #[.int .i64 xp] 3)).cell? ⟨wr.heap.size, 0, none⟩ = some (.int .i64 xp) := by simp [go_sem]
        have c3b : ∀ (vx : Value) (w' : World), Own wr w1.heap.size vx l1 → (wr.alloc (.cells #[.int .i64 xp] 3)).grownBy w' vx.ownBlock → w'.cell? ⟨g, a * 4 + 3, none⟩ = some (.int .i64 xe) := fun vx w' hox hg => by
          have hb := ((Below.refl w1.heap.size wr).alloc hbl.size (.cells #[.int .i64 xp] 3)).grown hg (by simp; have := hbl.size; omega) (fun j hj => (hox.lt j hj).1)
          rw [hb.cell (p := ⟨g, a * 4 + 3, none⟩) hg1]; exact c3
        have hszl := hbl.size
        clear hxp hxe hl2 hp3 hrw hpath
        go_wp2_with (at_builtin; refine append_int rfl _ _ rfl w1.heap.size _ l1 (xp : Int) wr.heap.size rfl rfl (hown.alloc _) hcb (by omega) (by simp; omega) ?_; intro v' w2 hown2 hgrow2; have c3c := c3b _ _ hown hgrow2)
        go_roundw
        case rel => exact ⟨xe, l1 ++ [(xp : Int)], l3, hx2, rfl, HNX, HP3, hLL, hown2, (hbl.alloc hszl _).grown hgrow2 (by simp; omega) (fun j hj => (hown.lt j hj).1)⟩
        case measure => simp [intOf]; omega
      · obtain rfl : a = n := by omega
        have HLE : Hid (L = l1) := Lib.hid (by rw [hl12.out, hpath.out.at_end, List.append_nil])
        go_wp2
        go_ret2
        exact ⟨_, by rw [hE.out]; rfl, by rw [hE.out, if_pos rfl, HLE.out]; exact hown.base hB1.size, hB1.trans (hbl.mono hB1.size)⟩
end Go.Proofs.Ytpogpehbkgjiaaa
