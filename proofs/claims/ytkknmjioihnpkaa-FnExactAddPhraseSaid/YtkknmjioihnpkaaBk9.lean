/- Chapter 2: looking up phrases by texts and by signals. -/
import Derived.Test.YtkknmjioihnpkaaBk8
import Derived.Test.YtkknmjioihnpkaaShelf
import Derived.Deep.LoopGhost
namespace Go.Proofs.Ytkknmjioihnpkaa
open Go.RowKit
set_option linter.unusedSimpArgs false
set_option linter.unusedVariables false

/-! ### The order of texts -/
theorem bl_irrefl : ∀ a : List UInt8, Op.bytesLess a a = false
  | [] => by simp [Op.bytesLess]
  | x :: a => by
    have hx : ¬ x < x := UInt8.lt_irrefl x
    simp [Op.bytesLess, bl_irrefl a, hx]
theorem bl_cons (x y : UInt8) (a b : List UInt8) : Op.bytesLess (x :: a) (y :: b) = true ↔ x < y ∨ (x = y ∧ Op.bytesLess a b = true) := by
  simp [Op.bytesLess]
theorem bl_trans : ∀ a b c : List UInt8, Op.bytesLess a b = true → Op.bytesLess b c = true → Op.bytesLess a c = true
  | [], [], c, h, _ => by simp [Op.bytesLess] at h
  | [], _ :: _, [], _, h => by simp [Op.bytesLess] at h
  | [], _ :: _, _ :: _, _, _ => by simp [Op.bytesLess]
  | _ :: _, [], _, h, _ => by simp [Op.bytesLess] at h
  | _ :: _, _ :: _, [], _, h => by simp [Op.bytesLess] at h
  | x :: a, y :: b, z :: c, h1, h2 => by
    rw [bl_cons] at h1 h2 ⊢
    rcases h1 with h1 | ⟨rfl, h1⟩
    · rcases h2 with h2 | ⟨rfl, h2⟩
      · exact .inl (UInt8.lt_trans h1 h2)
      · exact .inl h1
    · rcases h2 with h2 | ⟨rfl, h2⟩
      · exact .inl h2
      · exact .inr ⟨rfl, bl_trans a b c h1 h2⟩
theorem cmp_neg : ∀ a b : List UInt8, Lib.compareBytes a b < 0 ↔ Op.bytesLess a b = true
  | [], [] => by simp [Lib.compareBytes, Op.bytesLess]
  | [], _ :: _ => by simp [Lib.compareBytes, Op.bytesLess]
  | _ :: _, [] => by simp [Lib.compareBytes, Op.bytesLess]
  | x :: a, y :: b => by
    rw [bl_cons]
    unfold Lib.compareBytes
    by_cases h1 : x < y
    · simp [h1]
    · by_cases h2 : y < x
      · have hne : x ≠ y := by rintro rfl; exact h1 h2
        simp [h1, h2, hne]
      · have he : x = y := by
          rcases UInt8.lt_or_eq_of_le (UInt8.not_lt.1 h2) with h | h
          · exact absurd h h1
          · exact h
        subst he
        simp [h1, cmp_neg a b]
theorem cmp_zero : ∀ a b : List UInt8, Lib.compareBytes a b = 0 ↔ a = b
  | [], [] => by simp [Lib.compareBytes]
  | [], _ :: _ => by simp [Lib.compareBytes]
  | _ :: _, [] => by simp [Lib.compareBytes]
  | x :: a, y :: b => by
    unfold Lib.compareBytes
    by_cases h1 : x < y
    · have hne : x ≠ y := by rintro rfl; exact UInt8.lt_irrefl _ h1
      simp [h1, hne]
    · by_cases h2 : y < x
      · have hne : x ≠ y := by rintro rfl; exact h1 h2
        simp [h1, h2, hne]
      · have he : x = y := by
          rcases UInt8.lt_or_eq_of_le (UInt8.not_lt.1 h2) with h | h
          · exact absurd h h1
          · exact h
        subst he
        simp [h1, cmp_zero a b]
theorem bytes_ext {a b : ByteArray} (h : a.data.toList = b.data.toList) : a = b := by
  cases a; cases b; simp at h; rw [h]
theorem lessB_data (a b : ByteArray) : lessB a b = Op.bytesLess a.data.toList b.data.toList := by
  unfold lessB; rw [ByteArray.toList_eq, ByteArray.toList_eq]
theorem lessB_irrefl (a : ByteArray) : lessB a a = false := bl_irrefl _
theorem lessB_trans {a b c : ByteArray} (h1 : lessB a b = true) (h2 : lessB b c = true) : lessB a c = true := bl_trans _ _ _ h1 h2
def cmpB (a b : ByteArray) : Int := Lib.compareBytes a.data.toList b.data.toList
theorem cmpB_neg {a b : ByteArray} : cmpB a b < 0 ↔ lessB a b = true := by rw [lessB_data]; exact cmp_neg _ _
theorem cmpB_zero {a b : ByteArray} : cmpB a b = 0 ↔ a = b := by
  unfold cmpB; rw [cmp_zero]; exact ⟨bytes_ext, fun h => by rw [h]⟩

/-- The texts increase. -/
def Incr (ps : List Ph) : Prop := ∀ i, i + 1 < ps.length → lessB (phAt ps i).txt (phAt ps (i + 1)).txt = true
theorem Incr.lt {ps : List Ph} (h : Incr ps) : ∀ (d i : Nat), i + 1 + d < ps.length → lessB (phAt ps i).txt (phAt ps (i + 1 + d)).txt = true
  | 0, i, hi => h i hi
  | d + 1, i, hi => lessB_trans (Incr.lt h d i (by omega)) (h (i + 1 + d) (by omega))
theorem Incr.mono {ps : List Ph} (h : Incr ps) {i j : Nat} (hij : i < j) (hj : j < ps.length) : lessB (phAt ps i).txt (phAt ps j).txt = true := by
  have := h.lt (j - i - 1) i (by omega)
  rwa [show i + 1 + (j - i - 1) = j by omega] at this
theorem goodAt_less {ps : List Ph} {k : Nat} (h : goodAt ps (k + 1) = true) : lessB (phAt ps k).txt (phAt ps (k + 1)).txt = true := by
  simp [goodAt] at h
  exact h.1.2
theorem goodAt_txt {ps : List Ph} {k : Nat} (h : goodAt ps k = true) : textB (phAt ps k).txt = true := by
  simp [goodAt] at h; exact h.1.1.1
theorem goodAt_sig {ps : List Ph} {k : Nat} (h : goodAt ps k = true) : sigB (phAt ps k).sig = true := by
  simp [goodAt] at h; exact h.1.1.2
theorem goodAt_idx {ps : List Ph} {k : Nat} (h : goodAt ps k = true) : sigIdx ps (phAt ps k).sig = k := by
  simp [goodAt] at h; exact h.2
theorem bookB_incr {ps : List Ph} (h : bookB ps = true) : Incr ps := fun i hi => goodAt_less (bookB_at h hi)

/-- The place of a text among increasing ones. -/
def Place (ps : List Ph) (s : ByteArray) (i : Nat) : Prop := i ≤ ps.length ∧ (∀ m, m < i → lessB (phAt ps m).txt s = true) ∧ ∀ m, i ≤ m → m < ps.length → lessB (phAt ps m).txt s = false
def foundB (ps : List Ph) (s : ByteArray) (i : Nat) : Bool := decide (i < ps.length) && decide ((phAt ps i).txt = s)
theorem foundB_at {ps : List Ph} {s : ByteArray} {i : Nat} (h : foundB ps s i = true) : i < ps.length ∧ (phAt ps i).txt = s := by simpa [foundB] using h
theorem foundB_no {ps : List Ph} {s : ByteArray} {i : Nat} (hin : Incr ps) (hp : Place ps s i) (h : foundB ps s i = false) : ∀ m, m < ps.length → (phAt ps m).txt ≠ s := by
  intro m hm e
  by_cases hmi : m < i
  · have := hp.2.1 m hmi
    rw [e, lessB_irrefl] at this
    cases this
  · have h1 : i < ps.length := by omega
    have h2 := hp.2.2 i (Nat.le_refl _) h1
    simp [foundB, h1] at h
    by_cases hi : i = m
    · subst hi; exact h e
    · have h3 := hin.mono (show i < m by omega) hm
      rw [e, h2] at h3
      cases h3
def txtIdx (ps : List Ph) (s : ByteArray) : Nat := ps.findIdx fun p => decide (p.txt = s)
theorem txtIdx_le (ps : List Ph) (s : ByteArray) : txtIdx ps s ≤ ps.length := List.findIdx_le_length
theorem txtIdx_lt {ps : List Ph} {s : ByteArray} {i : Nat} (hi : i < ps.length) (h : (phAt ps i).txt = s) : txtIdx ps s ≤ i := by
  refine Nat.le_of_not_lt fun hlt => ?_
  have := List.not_of_lt_findIdx (p := fun p : Ph => decide (p.txt = s)) hlt
  rw [phAt_eq hi] at h
  simp [h] at this
theorem txtIdx_at {ps : List Ph} {s : ByteArray} (h : txtIdx ps s < ps.length) : (phAt ps (txtIdx ps s)).txt = s := by
  rw [phAt_eq h]
  have := List.findIdx_getElem (p := fun p : Ph => decide (p.txt = s)) (w := h)
  exact of_decide_eq_true this
theorem txtIdx_of {ps : List Ph} {s : ByteArray} {i : Nat} (hi : i < ps.length) (h : (phAt ps i).txt = s) (hm : ∀ j, j < i → (phAt ps j).txt ≠ s) : txtIdx ps s = i := by
  refine Nat.le_antisymm (txtIdx_lt hi h) (Nat.le_of_not_lt fun hlt => ?_)
  exact hm _ hlt (txtIdx_at (Nat.lt_trans hlt hi))
theorem txtIdx_none {ps : List Ph} {s : ByteArray} (hm : ∀ j, j < ps.length → (phAt ps j).txt ≠ s) : txtIdx ps s = ps.length := by
  refine Nat.le_antisymm (txtIdx_le _ _) (Nat.le_of_not_lt fun hlt => ?_)
  exact hm _ hlt (txtIdx_at hlt)
def txtPos (ps : List Ph) (s : ByteArray) : Int := if txtIdx ps s < ps.length then (txtIdx ps s : Int) else -1
theorem txtPos_yes {ps : List Ph} {s : ByteArray} {i : Nat} (hi : i < ps.length) (h : (phAt ps i).txt = s) (hm : ∀ j, j < i → (phAt ps j).txt ≠ s) : txtPos ps s = i := by
  have := txtIdx_of hi h hm
  unfold txtPos; rw [this, if_pos hi]
theorem txtPos_no {ps : List Ph} {s : ByteArray} (hm : ∀ j, j < ps.length → (phAt ps j).txt ≠ s) : txtPos ps s = -1 := by
  have := txtIdx_none hm
  unfold txtPos; rw [this, if_neg (by omega)]
theorem txtPos_found {ps : List Ph} {s : ByteArray} {i : Nat} (hp : Place ps s i) (h : foundB ps s i = true) : txtPos ps s = i := by
  obtain ⟨h1, h2⟩ := foundB_at h
  refine txtPos_yes h1 h2 fun j hj e => ?_
  have := hp.2.1 j hj
  rw [e, lessB_irrefl] at this
  cases this
theorem txtPos_text {ps : List Ph} {s : ByteArray} (hb : bookB ps = true) (ht : textB s = false) : txtPos ps s = -1 := by
  refine txtPos_no fun j hj e => ?_
  have := goodAt_txt (bookB_at hb hj)
  rw [e, ht] at this
  cases this
theorem str_ne {a b : ByteArray} (h : a ≠ b) : (a.toList == b.toList) = false := by
  rw [beq_eq_false_iff_ne, ByteArray.toList_eq, ByteArray.toList_eq]; exact fun e => h (bytes_ext e)

theorem place1_any (s t : ByteArray) (u : Value) (w : World) :
    Calls Try.prog 90 #[.agg #[.string s, u], .string t] w fun e w' => e = .returned (.int .i64 (cmpB s t)) ∧ Below w.heap.size w w' := by
  have hb0 := fun o1 => (Below.refl w.heap.size w).alloc (Nat.le_refl _) o1
  go_enter Try.func90, Try.ntmps90
  go_wp2_with fail
  refine (Try.strings_Compare _ _ _).mono ?_
  rintro e w1 ⟨rfl, rfl⟩
  go_wp2
  go_ret
  exact ⟨rfl, hb0 _⟩

/-- What the halving hands back. -/
def PlacePost (ps : List Ph) (s : ByteArray) (w : World) (e : Ending) (w' : World) : Prop :=
  ∃ i : Nat, Place ps s i ∧ e = .returned (.tuple #[.int .i64 i, .bool (foundB ps s i)]) ∧ Below w.heap.size w w'

set_option maxHeartbeats 1000000 in
theorem bsFunc_any (v : Value) (ps : List Ph) (s : ByteArray) (w : World) (hsm : ps.length ≤ 40) (hin : Incr ps) (hr : RdPs w v ps) :
    Calls Try.prog 89 #[v, .string s, .func (.func 90) #[] #[]] w (PlacePost ps s w) := by
  obtain ⟨a, cap, rfl, -⟩ := hr.len
  obtain ⟨n, hn⟩ : ∃ n, n = ps.length := ⟨_, rfl⟩
  have HN := Lib.hid hn
  have HR := Lib.hid hr
  have HI := Lib.hid hin
  rw [← hn] at hsm ⊢
  clear hn hr hin
  go_enter Try.func89, Try.ntmps89
  go_wp2
  go_loopg [9, 10] n (fun g s7 s8 wr => ∃ lo hi : Nat, s7 = .int .i64 lo ∧ s8 = .int .i64 hi ∧ lo ≤ hi ∧ hi ≤ n ∧ hi - lo ≤ g ∧ Below w.heap.size w wr ∧ Hid ((∀ m, m < lo → lessB (phAt ps m).txt s = true) ∧ ∀ m, hi ≤ m → m < n → lessB (phAt ps m).txt s = false))
  case atStart => exact ⟨0, n, rfl, rfl, Nat.zero_le _, Nat.le_refl _, by omega, Below.refl _ _, Lib.hid ⟨fun m hm => by omega, fun m h1 h2 => by omega⟩⟩
  case round =>
    obtain ⟨lo, hi, rfl, rfl, hlh, hhn, hg, hbl, hord⟩ := hrel
    by_cases hlt : lo < hi
    · obtain ⟨g, off, u, rfl, hgs, hts, hc0, hc1, hru⟩ := (HR.out.below hbl (Nat.le_refl _)).at_ (by rw [← HN.out]) ((lo + hi) / 2) (by rw [← HN.out]; omega)
      cases hls : lessB (phAt ps ((lo + hi) / 2)).txt s with
      | true =>
        have hcm := cmpB_neg.2 hls
        have hord' : Hid ((∀ m, m < (lo + hi) / 2 + 1 → lessB (phAt ps m).txt s = true) ∧ ∀ m, hi ≤ m → m < n → lessB (phAt ps m).txt s = false) := Lib.hid ⟨fun m hm => by
          by_cases e : m = (lo + hi) / 2
          · rw [e]; exact hls
          · exact lessB_trans (HI.out.mono (show m < (lo + hi) / 2 by omega) (by rw [← HN.out]; omega)) hls, hord.out.2⟩
        go_wp2_with (go_at_call 90; refine (place1_any _ _ _ _).mono ?_; rintro e w1 ⟨rfl, hb'⟩)
        go_roundg (hi - ((lo + hi) / 2 + 1))
        case measure => omega
        case rel => exact ⟨(lo + hi) / 2 + 1, hi, by rw [show ((lo : Int) + (hi : Int)) / 2 + 1 = (((lo + hi) / 2 + 1 : Nat) : Int) by omega], rfl, by omega, hhn, Nat.le_refl _, hbl.trans (hb'.mono hbl.size), hord'⟩
      | false =>
        have hcm : ¬ cmpB (phAt ps ((lo + hi) / 2)).txt s < 0 := fun h => by rw [cmpB_neg.1 h] at hls; cases hls
        have hcm : 0 ≤ cmpB (phAt ps ((lo + hi) / 2)).txt s := by omega
        have hord' : Hid ((∀ m, m < lo → lessB (phAt ps m).txt s = true) ∧ ∀ m, (lo + hi) / 2 ≤ m → m < n → lessB (phAt ps m).txt s = false) := Lib.hid ⟨hord.out.1, fun m h1 h2 => by
          by_cases e : m = (lo + hi) / 2
          · rw [e]; exact hls
          · cases hx : lessB (phAt ps m).txt s with
            | false => rfl
            | true =>
              have := lessB_trans (HI.out.mono (show (lo + hi) / 2 < m by omega) (by rw [← HN.out]; omega)) hx
              rw [hls] at this
              cases this⟩
        go_wp2_with (go_at_call 90; refine (place1_any _ _ _ _).mono ?_; rintro e w1 ⟨rfl, hb'⟩)
        go_roundg ((lo + hi) / 2 - lo)
        case measure => omega
        case rel => exact ⟨lo, (lo + hi) / 2, rfl, by rw [show ((lo : Int) + (hi : Int)) / 2 = (((lo + hi) / 2 : Nat) : Int) by omega], by omega, by omega, Nat.le_refl _, hbl.trans (hb'.mono hbl.size), hord'⟩
    · obtain rfl : hi = lo := by omega
      have HP : Hid (Place ps s hi) := Lib.hid ⟨by rw [← HN.out]; exact hhn, hord.out.1, fun m h1 h2 => hord.out.2 m h1 (by rw [HN.out]; exact h2)⟩
      by_cases hn1 : hi < n
      · obtain ⟨g, off, u, rfl, hgs, hts, hc0, hc1, hru⟩ := (HR.out.below hbl (Nat.le_refl _)).at_ (by rw [← HN.out]) hi (by rw [← HN.out]; exact hn1)
        by_cases he : (phAt ps hi).txt = s
        · have hz : (cmpB (phAt ps hi).txt s == 0) = true := by simpa using cmpB_zero.2 he
          have hf : Hid (foundB ps s hi = true) := Lib.hid (by simp [foundB, he]; rw [← HN.out]; exact hn1)
          clear he
          go_wp2_with (go_at_call 90; refine (place1_any _ _ _ _).mono ?_; rintro e w1 ⟨rfl, hb'⟩)
          go_ret2
          exact ⟨hi, HP.out, by rw [hf.out]; rfl, hbl.trans (hb'.mono hbl.size)⟩
        · have hz : (cmpB (phAt ps hi).txt s == 0) = false := by rw [beq_eq_false_iff_ne]; exact fun e => he (cmpB_zero.1 e)
          have hf : Hid (foundB ps s hi = false) := Lib.hid (by simp [foundB, he])
          clear he
          go_wp2_with (go_at_call 90; refine (place1_any _ _ _ _).mono ?_; rintro e w1 ⟨rfl, hb'⟩)
          go_ret2
          exact ⟨hi, HP.out, by rw [hf.out]; rfl, hbl.trans (hb'.mono hbl.size)⟩
      · have hf : Hid (foundB ps s hi = false) := Lib.hid (by simp [foundB]; intro h; rw [← HN.out] at h; omega)
        go_wp2
        go_ret2
        exact ⟨hi, HP.out, by rw [hf.out]; rfl, hbl⟩

theorem placeOfText_any (v : Value) (ps : List Ph) (s : ByteArray) (w : World) (hsm : ps.length ≤ 40) (hin : Incr ps) (hr : RdPs w v ps) :
    Calls Try.prog 65 #[v, .string s] w (PlacePost ps s w) := by
  go_enter Try.func65, Try.ntmps65
  go_wp2_with fail
  refine (bsFunc_any _ ps s _ hsm hin hr).mono ?_
  rintro e w1 ⟨i, hp, rfl, hb⟩
  go_wp2
  go_ret2
  exact ⟨i, hp, rfl, hb⟩

/-- A number and whether it is told: 0 where it is not. -/
def okI (c : Bool) (x : Int) : Int := if c then x else 0
theorem okI_yes {c : Bool} {x : Int} (h : c = true) : okI c x = x := by simp [okI, h]
theorem okI_no {c : Bool} {x : Int} (h : c = false) : okI c x = 0 := by simp [okI, h]
def findC (ps : List Ph) (s : ByteArray) : Bool := bookB ps && decide (0 ≤ txtPos ps s)
theorem findC_no {ps : List Ph} {s : ByteArray} (h : bookB ps = false) : findC ps s = false := by simp [findC, h]
theorem findC_pos {ps : List Ph} {s : ByteArray} (h : bookB ps = true) (h2 : 0 ≤ txtPos ps s) : findC ps s = true := by simp [findC, h, h2]
theorem findC_neg {ps : List Ph} {s : ByteArray} (h2 : txtPos ps s < 0) : findC ps s = false := by simp [findC]; intro _; exact h2

theorem implFind_any (v : Value) (ps : List Ph) (s : ByteArray) (w : World) (hs : s.size ≤ maxLen) (hr : RdPs w v ps) :
    Calls Try.prog 32 #[.agg #[v], .string s] w fun e w' => e = .returned (.tuple #[.int .i64 (okI (findC ps s) (txtPos ps s)), .bool (findC ps s)]) ∧ Below w.heap.size w w' := by
  obtain ⟨a, cap, rfl, -⟩ := hr.len
  have hbW := (Below.refl w.heap.size w).alloc (Nat.le_refl _) (.cells #[.slice a ps.length cap] 25)
  have hrW := hr.later hbW
  have hcW : (w.alloc (.cells #[.slice a ps.length cap] 25)).cell? ⟨w.heap.size, 0, none⟩ = some (.slice a ps.length cap) := by simp [go_sem]
  have hsW : w.heap.size < (w.alloc (.cells #[.slice a ps.length cap] 25)).heap.size := by simp
  go_enter Try.func32, Try.ntmps32
  go_wp2_with fail
  generalize w.alloc (.cells #[.slice a ps.length cap] 25) = W at *
  refine (implIsBook_any _ ps _ hrW).mono ?_
  rintro e w1 ⟨rfl, hb1⟩
  have c1 := hcW ▸ hb1.cell (p := ⟨w.heap.size, 0, none⟩) hsW
  cases hbk : bookB ps with
  | false =>
    have hf := Lib.hid (findC_no (s := s) hbk)
    go_wp2
    go_ret2
    exact ⟨by rw [hf.out, okI_no rfl]; rfl, hbW.trans (hb1.mono hbW.size)⟩
  | true =>
    cases ht : textB s with
    | false =>
      have hf : Hid (findC ps s = false) := Lib.hid (findC_neg (by rw [txtPos_text hbk ht]; omega))
      go_wp2_with (go_at_call 25; refine (implPhraseText_any _ _ hs).mono ?_; rintro e w2 ⟨rfl, hb2⟩)
      go_ret2
      exact ⟨by rw [hf.out, okI_no rfl]; rfl, hbW.trans ((hb1.trans (hb2.mono hb1.size)).mono hbW.size)⟩
    | true =>
      have HB := Lib.hid hbk
      go_wp2_with fail
      refine (implPhraseText_any _ _ hs).mono ?_
      rintro e w2 ⟨rfl, hb2⟩
      have hB2 := hb1.trans (hb2.mono hb1.size)
      have c2 := hcW ▸ hB2.cell (p := ⟨w.heap.size, 0, none⟩) hsW
      clear c1
      go_wp2_with fail
      refine (placeOfText_any _ ps s _ (bookB_len HB.out).2 (bookB_incr HB.out) (hrW.later hB2)).mono ?_
      rintro e w3 ⟨i, hp, rfl, hb3⟩
      have hB3 := hB2.trans (hb3.mono hB2.size)
      have HP := Lib.hid hp
      clear hp
      cases hfd : foundB ps s i with
      | true =>
        have hpos := Lib.hid (txtPos_found HP.out hfd)
        have hf : Hid (findC ps s = true) := Lib.hid (findC_pos HB.out (by rw [hpos.out]; omega))
        go_wp2
        go_ret2
        exact ⟨by rw [hf.out, okI_yes rfl, hpos.out]; rfl, hbW.trans (hB3.mono hbW.size)⟩
      | false =>
        have hf : Hid (findC ps s = false) := Lib.hid (findC_neg (by rw [txtPos_no (foundB_no (bookB_incr HB.out) HP.out hfd)]; omega))
        go_wp2
        go_ret2
        exact ⟨by rw [hf.out, okI_no rfl]; rfl, hbW.trans (hB3.mono hbW.size)⟩

set_option maxHeartbeats 400000 in
theorem bkFind_any (v : Value) (ps : List Ph) (s : ByteArray) (w : World) (hr : RdPs w v ps) :
    Calls Try.prog 64 #[.agg #[v], .string s] w fun e w' => e = .returned (.int .i64 (txtPos ps s)) ∧ Below w.heap.size w w' := by
  have hm := hr.max
  obtain ⟨a, cap, rfl, -⟩ := hr.len
  obtain ⟨n, hn⟩ : ∃ n, n = ps.length := ⟨_, rfl⟩
  have HN := Lib.hid hn
  have HR := Lib.hid hr
  rw [← hn] at hm ⊢
  clear hn hr
  go_enter Try.func64, Try.ntmps64
  go_wp2
  go_loopw [10] (fun i wr => ∃ k : Nat, k ≤ n ∧ i = .int .i64 k ∧ Below w.heap.size w wr ∧ Hid (∀ j, j < k → (phAt ps j).txt ≠ s)) (fun i wr => n - (intOf i).toNat)
  case atStart => exact ⟨0, Nat.zero_le _, rfl, (Below.refl _ _).alloc (Nat.le_refl _) _, Lib.hid fun j hj => by omega⟩
  case round =>
    obtain ⟨k, hk, rfl, hbl, hall⟩ := hrel
    by_cases hlt : k < n
    · obtain ⟨g, off, u, rfl, hg, hts, hc0, hc1, hru⟩ := (HR.out.below hbl (Nat.le_refl _)).at_ (by rw [← HN.out]) k (by rw [← HN.out]; exact hlt)
      obtain ⟨ua, uc, rfl⟩ := hru.rd.len
      have hbl2 := fun o => hbl.alloc hbl.size o
      by_cases he : (phAt ps k).txt = s
      · have hf : Hid (txtPos ps s = k) := Lib.hid (txtPos_yes (by rw [← HN.out]; exact hlt) he hall.out)
        have ht : ((phAt ps k).txt.toList == s.toList) = true := by rw [he]; simp
        clear he
        go_wp2
        go_ret
        exact ⟨ret_int hf.out.symm, hbl2 _⟩
      · have hall' : Hid (∀ j, j < k + 1 → (phAt ps j).txt ≠ s) := Lib.hid fun j hj => by
          by_cases e : j = k
          · subst e; exact he
          · exact hall.out j (by omega)
        have ht := str_ne he
        clear he
        go_wp2
        go_roundw
        case rel => exact ⟨k + 1, by omega, by go_num, hbl2 _, hall'⟩
        case measure => simp [intOf]; omega
    · have hf : Hid (txtPos ps s = -1) := Lib.hid (txtPos_no fun j hj => hall.out j (by rw [← HN.out] at hj; omega))
      go_wp2
      go_ret
      exact ⟨ret_int hf.out.symm, hbl⟩

theorem specFind_any (v : Value) (ps : List Ph) (s : ByteArray) (w : World) (hr : RdPs w v ps) :
    Calls Try.prog 31 #[.agg #[v], .string s] w fun e w' => e = .returned (.tuple #[.int .i64 (okI (findC ps s) (txtPos ps s)), .bool (findC ps s)]) ∧ Below w.heap.size w w' := by
  obtain ⟨a, cap, rfl, -⟩ := hr.len
  have hbW := (Below.refl w.heap.size w).alloc (Nat.le_refl _) (.cells #[.slice a ps.length cap] 25)
  have hrW := hr.later hbW
  have hcW : (w.alloc (.cells #[.slice a ps.length cap] 25)).cell? ⟨w.heap.size, 0, none⟩ = some (.slice a ps.length cap) := by simp [go_sem]
  have hsW : w.heap.size < (w.alloc (.cells #[.slice a ps.length cap] 25)).heap.size := by simp
  go_enter Try.func31, Try.ntmps31
  go_wp2_with fail
  generalize w.alloc (.cells #[.slice a ps.length cap] 25) = W at *
  refine (bkGood_any _ ps _ hrW).mono ?_
  rintro e w1 ⟨rfl, hb1⟩
  have c1 := hcW ▸ hb1.cell (p := ⟨w.heap.size, 0, none⟩) hsW
  cases hbk : bookB ps with
  | false =>
    have hf := Lib.hid (findC_no (s := s) hbk)
    go_wp2
    go_ret2
    exact ⟨by rw [hf.out, okI_no rfl]; rfl, hbW.trans (hb1.mono hbW.size)⟩
  | true =>
    have HB := Lib.hid hbk
    by_cases hpos : 0 ≤ txtPos ps s
    · have hf := Lib.hid (findC_pos HB.out hpos)
      go_wp2_with fail
      refine (bkFind_any _ ps s _ (hrW.later hb1)).mono ?_
      rintro e w2 ⟨rfl, hb2⟩
      have hB2 := hb1.trans (hb2.mono hb1.size)
      have c2 := hcW ▸ hB2.cell (p := ⟨w.heap.size, 0, none⟩) hsW
      clear c1
      go_wp2_with fail
      refine (bkFind_any _ ps s _ (hrW.later hB2)).mono ?_
      rintro e w3 ⟨rfl, hb3⟩
      go_wp2
      go_ret2
      exact ⟨by rw [hf.out, okI_yes rfl]; rfl, hbW.trans ((hB2.trans (hb3.mono hB2.size)).mono hbW.size)⟩
    · have hneg : txtPos ps s < 0 := by omega
      have hf := Lib.hid (findC_neg hneg)
      clear hpos
      go_wp2_with fail
      refine (bkFind_any _ ps s _ (hrW.later hb1)).mono ?_
      rintro e w2 ⟨rfl, hb2⟩
      go_wp2
      go_ret2
      exact ⟨by rw [hf.out, okI_no rfl]; rfl, hbW.trans ((hb1.trans (hb2.mono hb1.size)).mono hbW.size)⟩

def ofC (ps : List Ph) (l : List Int) : Bool := bookB ps && (sigB l && decide (0 ≤ sigPos ps l))
theorem ofC_no {ps : List Ph} {l : List Int} (h : bookB ps = false) : ofC ps l = false := by simp [ofC, h]
theorem ofC_sig {ps : List Ph} {l : List Int} (h : sigB l = false) : ofC ps l = false := by simp [ofC, h]
theorem ofC_pos {ps : List Ph} {l : List Int} (h : bookB ps = true) (h1 : sigB l = true) (h2 : 0 ≤ sigPos ps l) : ofC ps l = true := by simp [ofC, h, h1, h2]
theorem ofC_neg {ps : List Ph} {l : List Int} (h2 : sigPos ps l < 0) : ofC ps l = false := by simp [ofC]; intro _ _; exact h2
theorem implOf_any (v u : Value) (ps : List Ph) (l : List Int) (w : World) (hr : RdPs w v ps) (hu : Rd w u l) :
    Calls Try.prog 35 #[.agg #[v], u] w fun e w' => e = .returned (.tuple #[.int .i64 (okI (ofC ps l) (sigPos ps l)), .bool (ofC ps l)]) ∧ Below w.heap.size w w' := by
  obtain ⟨a, cap, rfl, -⟩ := hr.len
  obtain ⟨ua, uc, rfl⟩ := hu.len
  have hbW := (Below.refl w.heap.size w).alloc (Nat.le_refl _) (.cells #[.slice a ps.length cap] 25)
  have hrW := hr.later hbW
  have huW := hu.later hbW
  have hcW : (w.alloc (.cells #[.slice a ps.length cap] 25)).cell? ⟨w.heap.size, 0, none⟩ = some (.slice a ps.length cap) := by simp [go_sem]
  have hsW : w.heap.size < (w.alloc (.cells #[.slice a ps.length cap] 25)).heap.size := by simp
  go_enter Try.func35, Try.ntmps35
  go_wp2_with fail
  generalize w.alloc (.cells #[.slice a ps.length cap] 25) = W at *
  refine (implIsBook_any _ ps _ hrW).mono ?_
  rintro e w1 ⟨rfl, hb1⟩
  have c1 := hcW ▸ hb1.cell (p := ⟨w.heap.size, 0, none⟩) hsW
  cases hbk : bookB ps with
  | false =>
    have hf := Lib.hid (ofC_no (l := l) hbk)
    go_wp2
    go_ret2
    exact ⟨by rw [hf.out, okI_no rfl]; rfl, hbW.trans (hb1.mono hbW.size)⟩
  | true =>
    have HB := Lib.hid hbk
    cases hsg : sigB l with
    | false =>
      have hf := Lib.hid (ofC_sig (ps := ps) hsg)
      go_wp2_with (go_at_call 68; refine (arePhraseSignals_any _ l _ (huW.later hb1)).mono ?_; rintro e w2 ⟨rfl, rfl⟩)
      go_ret2
      exact ⟨by rw [hf.out, okI_no rfl]; rfl, hbW.trans (hb1.mono hbW.size)⟩
    | true =>
      have HS := Lib.hid hsg
      go_wp2_with fail
      refine (arePhraseSignals_any _ l _ (huW.later hb1)).mono ?_
      rintro e w2 ⟨rfl, rfl⟩
      go_wp2_with fail
      refine (indexOfSignals_any _ _ ps l _ (hrW.later hb1) (huW.later hb1)).mono ?_
      rintro e w3 ⟨rfl, hb3⟩
      have hB3 := hb1.trans (hb3.mono hb1.size)
      by_cases hpos : 0 ≤ sigPos ps l
      · have hf := Lib.hid (ofC_pos HB.out HS.out hpos)
        go_wp2
        go_ret2
        exact ⟨by rw [hf.out, okI_yes rfl]; rfl, hbW.trans (hB3.mono hbW.size)⟩
      · have hneg : sigPos ps l < 0 := by omega
        have hf := Lib.hid (ofC_neg hneg)
        clear hpos
        go_wp2
        go_ret2
        exact ⟨by rw [hf.out, okI_no rfl]; rfl, hbW.trans (hB3.mono hbW.size)⟩

theorem specOf_any (v u : Value) (ps : List Ph) (l : List Int) (w : World) (hr : RdPs w v ps) (hu : Rd w u l) :
    Calls Try.prog 33 #[.agg #[v], u] w fun e w' => e = .returned (.tuple #[.int .i64 (okI (ofC ps l) (sigPos ps l)), .bool (ofC ps l)]) ∧ Below w.heap.size w w' := by
  obtain ⟨a, cap, rfl, -⟩ := hr.len
  obtain ⟨ua, uc, rfl⟩ := hu.len
  have hbW := (Below.refl w.heap.size w).alloc (Nat.le_refl _) (.cells #[.slice a ps.length cap] 25)
  have hrW := hr.later hbW
  have huW := hu.later hbW
  have hcW : (w.alloc (.cells #[.slice a ps.length cap] 25)).cell? ⟨w.heap.size, 0, none⟩ = some (.slice a ps.length cap) := by simp [go_sem]
  have hsW : w.heap.size < (w.alloc (.cells #[.slice a ps.length cap] 25)).heap.size := by simp
  go_enter Try.func33, Try.ntmps33
  go_wp2_with fail
  generalize w.alloc (.cells #[.slice a ps.length cap] 25) = W at *
  refine (bkGood_any _ ps _ hrW).mono ?_
  rintro e w1 ⟨rfl, hb1⟩
  have c1 := hcW ▸ hb1.cell (p := ⟨w.heap.size, 0, none⟩) hsW
  cases hbk : bookB ps with
  | false =>
    have hf := Lib.hid (ofC_no (l := l) hbk)
    go_wp2
    go_ret2
    exact ⟨by rw [hf.out, okI_no rfl]; rfl, hbW.trans (hb1.mono hbW.size)⟩
  | true =>
    have HB := Lib.hid hbk
    cases hsg : sigB l with
    | false =>
      have hf := Lib.hid (ofC_sig (ps := ps) hsg)
      go_wp2_with (go_at_call 66; refine (bkSignals_any _ l _ (huW.later hb1)).mono ?_; rintro e w2 ⟨rfl, rfl⟩)
      go_ret2
      exact ⟨by rw [hf.out, okI_no rfl]; rfl, hbW.trans (hb1.mono hbW.size)⟩
    | true =>
      have HS := Lib.hid hsg
      go_wp2_with fail
      refine (bkSignals_any _ l _ (huW.later hb1)).mono ?_
      rintro e w2 ⟨rfl, rfl⟩
      go_wp2_with fail
      refine (bkOf_any _ _ ps l _ (hrW.later hb1) (huW.later hb1)).mono ?_
      rintro e w3 ⟨rfl, hb3⟩
      have hB3 := hb1.trans (hb3.mono hb1.size)
      have c3 := hcW ▸ hB3.cell (p := ⟨w.heap.size, 0, none⟩) hsW
      clear c1
      by_cases hpos : 0 ≤ sigPos ps l
      · have hf := Lib.hid (ofC_pos HB.out HS.out hpos)
        go_wp2_with fail
        refine (bkOf_any _ _ ps l _ (hrW.later hB3) (huW.later hB3)).mono ?_
        rintro e w4 ⟨rfl, hb4⟩
        go_wp2
        go_ret2
        exact ⟨by rw [hf.out, okI_yes rfl]; rfl, hbW.trans ((hB3.trans (hb4.mono hB3.size)).mono hbW.size)⟩
      · have hneg : sigPos ps l < 0 := by omega
        have hf := Lib.hid (ofC_neg hneg)
        clear hpos
        go_wp2
        go_ret2
        exact ⟨by rw [hf.out, okI_no rfl]; rfl, hbW.trans (hB3.mono hbW.size)⟩
end Go.Proofs.Ytkknmjioihnpkaa
