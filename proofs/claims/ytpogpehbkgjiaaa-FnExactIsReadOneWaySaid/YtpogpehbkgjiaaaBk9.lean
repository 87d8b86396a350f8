/- Chapter 2: looking up phrases by texts and by signals. -/
import Derived.Test.YtpogpehbkgjiaaaBk7
import Derived.Deep.LoopGhost
import Derived.Lib.Bytealg
namespace Go.Proofs.Ytpogpehbkgjiaaa
open Go.RowKit
set_option linter.unusedSimpArgs false
set_option linter.unusedVariables false

/-! ### The order of texts -/
theorem bl_irrefl : ∀ a : List UInt8, Op.bytesLess a a = false
  | [] => by simp [Op.bytesLess]
  | x :: a => by
    have hx : ¬ x < x := UInt8.lt_irrefl x
    simp [Op.bytesLess, bl_irrefl a, hx]
theorem bl_cons (x y : UInt8) (a b : List UInt8) : Op.bytesLess (x :: a) (y :: b) = true ↔ x < y ∨ (x = y ∧ Op.bytesLess a b = true) := by
  simp [Op.bytesLess]
theorem bl_trans : ∀ a b c : List UInt8, Op.bytesLess a b = true → Op.bytesLess b c = true → Op.bytesLess a c = true
  | [], [], c, h, _ => by simp [Op.bytesLess] at h
  | [], _ :: _, [], _, h => by simp [Op.bytesLess] at h
  | [], _ :: _, _ :: _, _, _ => by simp [Op.bytesLess]
  | _ :: _, [], _, h, _ => by simp [Op.bytesLess] at h
  | _ :: _, _ :: _, [], _, h => by simp [Op.bytesLess] at h
  | x :: a, y :: b, z :: c, h1, h2 => by
    rw [bl_cons] at h1 h2 ⊢
    rcases h1 with h1 | ⟨rfl, h1⟩
    · rcases h2 with h2 | ⟨rfl, h2⟩
      · exact .inl (UInt8.lt_trans h1 h2)
      · exact .inl h1
    · rcases h2 with h2 | ⟨rfl, h2⟩
      · exact .inl h2
      · exact .inr ⟨rfl, bl_trans a b c h1 h2⟩
theorem cmp_neg : ∀ a b : List UInt8, Lib.compareBytes a b < 0 ↔ Op.bytesLess a b = true
  | [], [] => by simp [Lib.compareBytes, Op.bytesLess]
  | [], _ :: _ => by simp [Lib.compareBytes, Op.bytesLess]
  | _ :: _, [] => by simp [Lib.compareBytes, Op.bytesLess]
  | x :: a, y :: b => by
    rw [bl_cons]
    unfold Lib.compareBytes
    by_cases h1 : x < y
    · simp [h1]
    · by_cases h2 : y < x
      · have hne : x ≠ y := by rintro rfl; exact h1 h2
        simp [h1, h2, hne]
      · have he : x = y := by
          rcases UInt8.lt_or_eq_of_le (UInt8.not_lt.1 h2) with h | h
          · exact absurd h h1
          · exact h
        subst he
        simp [h1, cmp_neg a b]
theorem cmp_zero : ∀ a b : List UInt8, Lib.compareBytes a b = 0 ↔ a = b
  | [], [] => by simp [Lib.compareBytes]
  | [], _ :: _ => by simp [Lib.compareBytes]
  | _ :: _, [] => by simp [Lib.compareBytes]
  | x :: a, y :: b => by
    unfold Lib.compareBytes
    by_cases h1 : x < y
    · have hne : x ≠ y := by rintro rfl; exact UInt8.lt_irrefl _ h1
      simp [h1, hne]
    · by_cases h2 : y < x
      · have hne : x ≠ y := by rintro rfl; exact h1 h2
        simp [h1, h2, hne]
      · have he : x = y := by
          rcases UInt8.lt_or_eq_of_le (UInt8.not_lt.1 h2) with h | h
          · exact absurd h h1
          · exact h
        subst he
        simp [h1, cmp_zero a b]
theorem bytes_ext {a b : ByteArray} (h : a.data.toList = b.data.toList) : a = b := by
  cases a; cases b; simp at h; rw [h]
theorem lessB_data (a b : ByteArray) : lessB a b = Op.bytesLess a.data.toList b.data.toList := by
  unfold lessB; rw [ByteArray.toList_eq, ByteArray.toList_eq]
theorem lessB_irrefl (a : ByteArray) : lessB a a = false := bl_irrefl _
theorem lessB_trans {a b c : ByteArray} (h1 : lessB a b = true) (h2 : lessB b c = true) : lessB a c = true := bl_trans _ _ _ h1 h2
def cmpB (a b : ByteArray) : Int := Lib.compareBytes a.data.toList b.data.toList
theorem cmpB_neg {a b : ByteArray} : cmpB a b < 0 ↔ lessB a b = true := by rw [lessB_data]; exact cmp_neg _ _
theorem cmpB_zero {a b : ByteArray} : cmpB a b = 0 ↔ a = b := by
  unfold cmpB; rw [cmp_zero]; exact ⟨bytes_ext, fun h => by rw [h]⟩

/-- The texts increase. -/
def Incr (ps : List Ph) : Prop := ∀ i, i + 1 < ps.length → lessB (phAt ps i).txt (phAt ps (i + 1)).txt = true
theorem Incr.lt {ps : List Ph} (h : Incr ps) : ∀ (d i : Nat), i + 1 + d < ps.length → lessB (phAt ps i).txt (phAt ps (i + 1 + d)).txt = true
  | 0, i, hi => h i hi
  | d + 1, i, hi => lessB_trans (Incr.lt h d i (by omega)) (h (i + 1 + d) (by omega))
theorem Incr.mono {ps : List Ph} (h : Incr ps) {i j : Nat} (hij : i < j) (hj : j < ps.length) : lessB (phAt ps i).txt (phAt ps j).txt = true := by
  have := h.lt (j - i - 1) i (by omega)
  rwa [show i + 1 + (j - i - 1) = j by omega] at this
theorem goodAt_less {ps : List Ph} {k : Nat} (h : goodAt ps (k + 1) = true) : lessB (phAt ps k).txt (phAt ps (k + 1)).txt = true := by
  simp [goodAt] at h
  exact h.1.2
theorem goodAt_txt {ps : List Ph} {k : Nat} (h : goodAt ps k = true) : textB (phAt ps k).txt = true := by
  simp [goodAt] at h; exact h.1.1.1
theorem goodAt_sig {ps : List Ph} {k : Nat} (h : goodAt ps k = true) : sigB (phAt ps k).sig = true := by
  simp [goodAt] at h; exact h.1.1.2
theorem goodAt_idx {ps : List Ph} {k : Nat} (h : goodAt ps k = true) : sigIdx ps (phAt ps k).sig = k := by
  simp [goodAt] at h; exact h.2
theorem bookB_incr {ps : List Ph} (h : bookB ps = true) : Incr ps := fun i hi => goodAt_less (bookB_at h hi)

/-- The place of a text among increasing ones. -/
def Place (ps : List Ph) (s : ByteArray) (i : Nat) : Prop := i ≤ ps.length ∧ (∀ m, m < i → lessB (phAt ps m).txt s = true) ∧ ∀ m, i ≤ m → m < ps.length → lessB (phAt ps m).txt s = false
def foundB (ps : List Ph) (s : ByteArray) (i : Nat) : Bool := decide (i < ps.length) && decide ((phAt ps i).txt = s)
theorem foundB_at {ps : List Ph} {s : ByteArray} {i : Nat} (h : foundB ps s i = true) : i < ps.length ∧ (phAt ps i).txt = s := by simpa [foundB] using h
theorem foundB_no {ps : List Ph} {s : ByteArray} {i : Nat} (hin : Incr ps) (hp : Place ps s i) (h : foundB ps s i = false) : ∀ m, m < ps.length → (phAt ps m).txt ≠ s := by
  intro m hm e
  by_cases hmi : m < i
  · have := hp.2.1 m hmi
    rw [e, lessB_irrefl] at this
    cases this
  · have h1 : i < ps.length := by omega
    have h2 := hp.2.2 i (Nat.le_refl _) h1
    simp [foundB, h1] at h
    by_cases hi : i = m
    · subst hi; exact h e
    · have h3 := hin.mono (show i < m by omega) hm
      rw [e, h2] at h3
      cases h3
def txtIdx (ps : List Ph) (s : ByteArray) : Nat := ps.findIdx fun p => decide (p.txt = s)
theorem txtIdx_le (ps : List Ph) (s : ByteArray) : txtIdx ps s ≤ ps.length := List.findIdx_le_length
theorem txtIdx_lt {ps : List Ph} {s : ByteArray} {i : Nat} (hi : i < ps.length) (h : (phAt ps i).txt = s) : txtIdx ps s ≤ i := by
  refine Nat.le_of_not_lt fun hlt => ?_
  have := List.not_of_lt_findIdx (p := fun p : Ph => decide (p.txt = s)) hlt
  rw [phAt_eq hi] at h
  simp [h] at this
theorem txtIdx_at {ps : List Ph} {s : ByteArray} (h : txtIdx ps s < ps.length) : (phAt ps (txtIdx ps s)).txt = s := by
  rw [phAt_eq h]
  have := List.findIdx_getElem (p := fun p : Ph => decide (p.txt = s)) (w := h)
  exact of_decide_eq_true this
theorem txtIdx_of {ps : List Ph} {s : ByteArray} {i : Nat} (hi : i < ps.length) (h : (phAt ps i).txt = s) (hm : ∀ j, j < i → (phAt ps j).txt ≠ s) : txtIdx ps s = i := by
  refine Nat.le_antisymm (txtIdx_lt hi h) (Nat.le_of_not_lt fun hlt => ?_)
  exact hm _ hlt (txtIdx_at (Nat.lt_trans hlt hi))
theorem txtIdx_none {ps : List Ph} {s : ByteArray} (hm : ∀ j, j < ps.length → (phAt ps j).txt ≠ s) : txtIdx ps s = ps.length := by
  refine Nat.le_antisymm (txtIdx_le _ _) (Nat.le_of_not_lt fun hlt => ?_)
  exact hm _ hlt (txtIdx_at hlt)
def txtPos (ps : List Ph) (s : ByteArray) : Int := if txtIdx ps s < ps.length then (txtIdx ps s : Int) else -1
theorem txtPos_yes {ps : List Ph} {s : ByteArray} {i : Nat} (hi : i < ps.length) (h : (phAt ps i).txt = s) (hm : ∀ j, j < i → (phAt ps j).txt ≠ s) : txtPos ps s = i := by
  have := txtIdx_of hi h hm
  unfold txtPos; rw [this, if_pos hi]
theorem txtPos_no {ps : List Ph} {s : ByteArray} (hm : ∀ j, j < ps.length → (phAt ps j).txt ≠ s) : txtPos ps s = -1 := by
  have := txtIdx_none hm
  unfold txtPos; rw [this, if_neg (by omega)]
theorem txtPos_found {ps : List Ph} {s : ByteArray} {i : Nat} (hp : Place ps s i) (h : foundB ps s i = true) : txtPos ps s = i := by
  obtain ⟨h1, h2⟩ := foundB_at h
  refine txtPos_yes h1 h2 fun j hj e => ?_
  have := hp.2.1 j hj
  rw [e, lessB_irrefl] at this
  cases this
theorem txtPos_text {ps : List Ph} {s : ByteArray} (hb : bookB ps = true) (ht : textB s = false) : txtPos ps s = -1 := by
  refine txtPos_no fun j hj e => ?_
  have := goodAt_txt (bookB_at hb hj)
  rw [e, ht] at this
  cases this
theorem str_ne {a b : ByteArray} (h : a ≠ b) : (a.toList == b.toList) = false := by
  rw [beq_eq_false_iff_ne, ByteArray.toList_eq, ByteArray.toList_eq]; exact fun e => h (bytes_ext e)

/-- What the halving hands back. -/
def PlacePost (ps : List Ph) (s : ByteArray) (w : World) (e : Ending) (w' : World) : Prop :=
  ∃ i : Nat, Place ps s i ∧ e = .returned (.tuple #[.int .i64 i, .bool (foundB ps s i)]) ∧ Below w.heap.size w w'

/-- A number and whether it is told: 0 where it is not. -/
def okI (c : Bool) (x : Int) : Int := if c then x else 0
theorem okI_yes {c : Bool} {x : Int} (h : c = true) : okI c x = x := by simp [okI, h]
theorem okI_no {c : Bool} {x : Int} (h : c = false) : okI c x = 0 := by simp [okI, h]
def findC (ps : List Ph) (s : ByteArray) : Bool := bookB ps && decide (0 ≤ txtPos ps s)
theorem findC_no {ps : List Ph} {s : ByteArray} (h : bookB ps = false) : findC ps s = false := by simp [findC, h]
theorem findC_pos {ps : List Ph} {s : ByteArray} (h : bookB ps = true) (h2 : 0 ≤ txtPos ps s) : findC ps s = true := by simp [findC, h, h2]
theorem findC_neg {ps : List Ph} {s : ByteArray} (h2 : txtPos ps s < 0) : findC ps s = false := by simp [findC]; intro _; exact h2

set_option maxHeartbeats 400000 in
theorem bkFind_any (v : Value) (ps : List Ph) (s : ByteArray) (w : World) (hr : RdPs w v ps) :
    Calls Try.prog 76 #[.agg #[v], .string s] w fun e w' => e = .returned (.int .i64 (txtPos ps s)) ∧ Below w.heap.size w w' := by
  have hm := hr.max
  obtain ⟨a, cap, rfl, -⟩ := hr.len
  obtain ⟨n, hn⟩ : ∃ n, n = ps.length := ⟨_, rfl⟩
  have HN := Lib.hid hn
  have HR := Lib.hid hr
  rw [← hn] at hm ⊢
  clear hn hr
  go_enter Try.func76, Try.ntmps76
  go_wp2
  go_loopw [10] (fun i wr => ∃ k : Nat, k ≤ n ∧ i = .int .i64 k ∧ Below w.heap.size w wr ∧ Hid (∀ j, j < k → (phAt ps j).txt ≠ s)) (fun i wr => n - (intOf i).toNat)
  case atStart => exact ⟨0, Nat.zero_le _, rfl, (Below.refl _ _).alloc (Nat.le_refl _) _, Lib.hid fun j hj => by omega⟩
  case round =>
    obtain ⟨k, hk, rfl, hbl, hall⟩ := hrel
    by_cases hlt : k < n
    · obtain ⟨g, off, u, rfl, hg, hts, hc0, hc1, hru⟩ := (HR.out.below hbl (Nat.le_refl _)).at_ (by rw [← HN.out]) k (by rw [← HN.out]; exact hlt)
      obtain ⟨ua, uc, rfl⟩ := hru.rd.len
      have hbl2 := fun o => hbl.alloc hbl.size o
      by_cases he : (phAt ps k).txt = s
      · have hf : Hid (txtPos ps s = k) := Lib.hid (txtPos_yes (by rw [← HN.out]; exact hlt) he hall.out)
        have ht : ((phAt ps k).txt.toList == s.toList) = true := by rw [he]; simp
        clear he
        go_wp2
        go_ret
        exact ⟨ret_int hf.out.symm, hbl2 _⟩
      · have hall' : Hid (∀ j, j < k + 1 → (phAt ps j).txt ≠ s) := Lib.hid fun j hj => by
          by_cases e : j = k
          · subst e; exact he
          · exact hall.out j (by omega)
        have ht := str_ne he
        clear he
        go_wp2
        go_roundw
        case rel => exact ⟨k + 1, by omega, by go_num, hbl2 _, hall'⟩
        case measure => simp [intOf]; omega
    · have hf : Hid (txtPos ps s = -1) := Lib.hid (txtPos_no fun j hj => hall.out j (by rw [← HN.out] at hj; omega))
      go_wp2
      go_ret
      exact ⟨ret_int hf.out.symm, hbl⟩

def ofC (ps : List Ph) (l : List Int) : Bool := bookB ps && (sigB l && decide (0 ≤ sigPos ps l))
theorem ofC_no {ps : List Ph} {l : List Int} (h : bookB ps = false) : ofC ps l = false := by simp [ofC, h]
theorem ofC_sig {ps : List Ph} {l : List Int} (h : sigB l = false) : ofC ps l = false := by simp [ofC, h]
theorem ofC_pos {ps : List Ph} {l : List Int} (h : bookB ps = true) (h1 : sigB l = true) (h2 : 0 ≤ sigPos ps l) : ofC ps l = true := by simp [ofC, h, h1, h2]
theorem ofC_neg {ps : List Ph} {l : List Int} (h2 : sigPos ps l < 0) : ofC ps l = false := by simp [ofC]; intro _ _; exact h2
end Go.Proofs.Ytpogpehbkgjiaaa
