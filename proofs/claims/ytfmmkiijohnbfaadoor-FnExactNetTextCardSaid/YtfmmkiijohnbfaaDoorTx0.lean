/- Texts: numbers in decimal, texts cut at a byte. No program in sight. -/
import Derived.Test.YtfmmkiijohnbfaaDoorBk0
import Derived.Lib.AtoiAll
import Derived.Lib.ItoaNum
import Derived.Lib.Split
namespace Go.Proofs.YtfmmkiijohnbfaaDoor
open Go.RowKit
set_option linter.unusedSimpArgs false
set_option linter.unusedVariables false

/-! ### Decimal numbers -/
def dec (n : Nat) : List UInt8 := Lib.decDigits n
def decS (n : Nat) : ByteArray := ⟨(dec n).toArray⟩
def isDg (c : UInt8) : Bool := decide (48 ≤ c.toNat) && decide (c.toNat ≤ 57)
def dgV (c : UInt8) : Nat := c.toNat - 48
def valF (a : Nat) (l : List UInt8) : Nat := l.foldl (fun a c => a * 10 + dgV c) a
theorem valF_nil (a : Nat) : valF a [] = a := rfl
theorem valF_cons (a : Nat) (c : UInt8) (l : List UInt8) : valF a (c :: l) = valF (a * 10 + dgV c) l := by unfold valF; rw [List.foldl_cons]
theorem valF_snoc (a : Nat) (l : List UInt8) (c : UInt8) : valF a (l ++ [c]) = valF a l * 10 + dgV c := by simp [valF]
theorem dec_small {n : Nat} (h : n < 10) : dec n = [UInt8.ofNat (48 + n)] := by unfold dec; rw [Lib.decDigits, dif_pos h]
theorem dec_big {n : Nat} (h : ¬ n < 10) : dec n = dec (n / 10) ++ [UInt8.ofNat (48 + n % 10)] := by unfold dec; rw [Lib.decDigits, dif_neg h]
theorem ofNat_dg {d : Nat} (h : d < 10) : (UInt8.ofNat (48 + d)).toNat = 48 + d := by
  rw [UInt8.toNat_ofNat']; omega
theorem dgV_of {d : Nat} (h : d < 10) : dgV (UInt8.ofNat (48 + d)) = d := by unfold dgV; rw [ofNat_dg h]; omega
theorem isDg_of {d : Nat} (h : d < 10) : isDg (UInt8.ofNat (48 + d)) = true := by
  unfold isDg; rw [ofNat_dg h]; simp; omega
theorem isDg_iff {c : UInt8} : isDg c = true ↔ 48 ≤ c.toNat ∧ c.toNat ≤ 57 := by simp [isDg]
theorem of_dgV {c : UInt8} (h : isDg c = true) : UInt8.ofNat (48 + dgV c) = c := by
  have := isDg_iff.1 h
  apply UInt8.toNat_inj.1
  unfold dgV
  rw [UInt8.toNat_ofNat']; omega
theorem dgV_lt {c : UInt8} (h : isDg c = true) : dgV c < 10 := by
  have := isDg_iff.1 h; unfold dgV; omega
theorem dec_val (n : Nat) : valF 0 (dec n) = n := by
  induction n using Nat.strongRecOn with
  | _ n ih =>
    by_cases h : n < 10
    · rw [dec_small h, valF_cons, dgV_of h, valF_nil]; omega
    · rw [dec_big h, valF_snoc, ih (n / 10) (by omega), dgV_of (Nat.mod_lt _ (by decide))]; omega
theorem dec_dg (n : Nat) : ∀ c ∈ dec n, isDg c = true := by
  induction n using Nat.strongRecOn with
  | _ n ih =>
    by_cases h : n < 10
    · rw [dec_small h]; intro c hc; rw [List.mem_singleton.1 hc]; exact isDg_of h
    · rw [dec_big h]; intro c hc
      simp only [List.mem_append, List.mem_singleton] at hc
      rcases hc with hc | rfl
      · exact ih (n / 10) (by omega) c hc
      · exact isDg_of (Nat.mod_lt _ (by decide))
theorem dec_ne (n : Nat) : dec n ≠ [] := by
  by_cases h : n < 10
  · rw [dec_small h]; simp
  · rw [dec_big h]; simp
theorem dec_inj {a b : Nat} (h : dec a = dec b) : a = b := by rw [← dec_val a, h, dec_val]
theorem decS_inj {a b : Nat} (h : decS a = decS b) : a = b := by
  apply dec_inj
  have := congrArg (fun s : ByteArray => s.data.toList) h
  simpa [decS] using this
theorem decS_data (n : Nat) : (decS n).data.toList = dec n := by simp [decS]
theorem head_app {α : Type} {l m : List α} (h : l ≠ []) : (l ++ m).head? = l.head? := by cases l with | nil => exact absurd rfl h | cons x xs => rfl
theorem dec_zero : dec 0 = [48] := by rw [dec_small (by decide)]; rfl
theorem dec_head (n : Nat) : (dec n).head? = some 48 → n = 0 := by
  induction n using Nat.strongRecOn with
  | _ n ih =>
    intro hh
    by_cases h : n < 10
    · rw [dec_small h] at hh
      simp only [List.head?_cons, Option.some.injEq] at hh
      have := congrArg UInt8.toNat hh
      rw [ofNat_dg h] at this
      have e : (48 : UInt8).toNat = 48 := rfl
      omega
    · rw [dec_big h, head_app (dec_ne _)] at hh
      have := ih (n / 10) (by omega) hh
      omega
theorem dec_len {n k : Nat} (h : n < 10 ^ k) (hk : 1 ≤ k) : (dec n).length ≤ k := by
  induction k generalizing n with
  | zero => omega
  | succ k ih =>
    by_cases h9 : n < 10
    · rw [dec_small h9]; simp
    · rw [dec_big h9]
      have hk1 : 1 ≤ k := by
        rcases Nat.eq_zero_or_pos k with rfl | h0
        · simp at h; omega
        · exact h0
      have := ih (n := n / 10) (by rw [Nat.pow_succ] at h; omega) hk1
      simp; omega
theorem val_lt : ∀ (l : List UInt8), (∀ c ∈ l, isDg c = true) → ∀ a, valF a l < (a + 1) * 10 ^ l.length
  | [], _, a => by simp [valF_nil]
  | c :: l, h, a => by
    have h1 := val_lt l (fun d hd => h d (by simp [hd])) (a * 10 + dgV c)
    have h2 := dgV_lt (h c (by simp))
    rw [valF_cons, List.length_cons, Nat.pow_succ]
    have h3 : (a * 10 + dgV c + 1) * 10 ^ l.length ≤ ((a + 1) * 10) * 10 ^ l.length := Nat.mul_le_mul_right _ (by omega)
    have h4 : (a + 1) * 10 * 10 ^ l.length = (a + 1) * (10 ^ l.length * 10) := by rw [Nat.mul_assoc, Nat.mul_comm 10]
    omega
/-- A numeral without a needless 0 ahead. -/
theorem dec_of_val : ∀ (m : Nat) (l : List UInt8), l.length = m → l ≠ [] → (∀ c ∈ l, isDg c = true) → (l.head? = some 48 → l.length = 1) → dec (valF 0 l) = l := by
  intro m
  induction m with
  | zero => intro l h hne; exact absurd (List.length_eq_zero_iff.1 h) hne
  | succ m ih =>
    intro l hl hne hd hh
    obtain ⟨i, c, rfl⟩ : ∃ i c, l = i ++ [c] := ⟨l.dropLast, l.getLast hne, (List.dropLast_concat_getLast hne).symm⟩
    have hc := hd c (by simp)
    by_cases hi : i = []
    · subst hi
      simp only [List.nil_append, valF_cons, valF_nil, Nat.zero_mul, Nat.zero_add]
      rw [dec_small (dgV_lt hc), of_dgV hc]
    · have hil : i.length = m := by simpa using hl
      have hi1 : 1 ≤ i.length := by
        rcases Nat.eq_zero_or_pos i.length with h | h
        · exact absurd (List.length_eq_zero_iff.1 h) hi
        · exact h
      have h48 : i.head? ≠ some 48 := fun h => by
        have := hh (by rw [head_app hi]; exact h)
        simp at this
        exact hi this
      have e := ih i hil hi (fun d hd' => hd d (by simp [hd'])) (fun h => absurd h h48)
      have hv : 1 ≤ valF 0 i := by
        rcases Nat.eq_zero_or_pos (valF 0 i) with h | h
        · exfalso
          rw [h] at e
          have : i = [48] := by rw [← e, dec_zero]
          rw [this] at h48
          exact h48 rfl
        · exact h
      rw [valF_snoc]
      have h10 : ¬ valF 0 i * 10 + dgV c < 10 := by omega
      have hdl := dgV_lt hc
      rw [dec_big h10]
      have e1 : (valF 0 i * 10 + dgV c) / 10 = valF 0 i := by omega
      have e2 : (valF 0 i * 10 + dgV c) % 10 = dgV c := by omega
      rw [e1, e2, e, of_dgV hc]

/-! ### How the model reads a number: -1 where there is none below a million -/
def rd6B (l : List UInt8) : Bool := decide (1 ≤ l.length) && decide (l.length ≤ 6) && !(l.head? == some 48 && decide (1 < l.length)) && l.all isDg
def rd6 (l : List UInt8) : Int := if rd6B l then valF 0 l else -1
theorem rd6_no {l : List UInt8} (h : rd6B l = false) : rd6 l = -1 := by simp [rd6, h]
theorem rd6_yes {l : List UInt8} (h : rd6B l = true) : rd6 l = valF 0 l := by simp [rd6, h]
theorem rd6_dec {n : Nat} (h : n < 1000000) : rd6 (dec n) = n := by
  have hl := dec_len (k := 6) (by simpa using h) (by decide)
  have h1 : 1 ≤ (dec n).length := by
    rcases Nat.eq_zero_or_pos (dec n).length with h | h
    · exact absurd (List.length_eq_zero_iff.1 h) (dec_ne n)
    · exact h
  have hb : rd6B (dec n) = true := by
    simp only [rd6B, Bool.and_eq_true, decide_eq_true_eq, Bool.not_eq_true', Bool.and_eq_false_iff, List.all_eq_true]
    refine ⟨⟨⟨h1, hl⟩, ?_⟩, dec_dg n⟩
    by_cases hh : (dec n).head? = some 48
    · right
      have := dec_head n hh
      subst this
      rw [dec_zero]; rfl
    · left
      simpa using hh
  rw [rd6_yes hb, dec_val]
theorem dec_of_rd6 {l : List UInt8} (h : 0 ≤ rd6 l) : dec (rd6 l).toNat = l ∧ rd6 l < 1000000 := by
  cases hb : rd6B l with
  | false => rw [rd6_no hb] at h; omega
  | true =>
    rw [rd6_yes hb]
    simp only [rd6B, Bool.and_eq_true, decide_eq_true_eq, Bool.not_eq_true', Bool.and_eq_false_iff, List.all_eq_true] at hb
    obtain ⟨⟨⟨h1, h6⟩, h48⟩, hd⟩ := hb
    refine ⟨?_, ?_⟩
    · have : ((valF 0 l : Nat) : Int).toNat = valF 0 l := by simp
      rw [this]
      refine dec_of_val l.length l rfl (fun e => by rw [e] at h1; simp at h1) hd (fun hh => ?_)
      rcases h48 with h48 | h48
      · rw [hh] at h48; simp at h48
      · simp at h48; omega
    · have := val_lt l hd 0
      have h2 : 10 ^ l.length ≤ 10 ^ 6 := Nat.pow_le_pow_right (by decide) h6
      have h3 : (10 : Nat) ^ 6 = 1000000 := by decide
      have h4 : (0 + 1) * 10 ^ l.length = 10 ^ l.length := by omega
      omega

/-! ### How the program's library reads it -/
theorem valF_ge : ∀ (l : List UInt8) (a : Nat), a ≤ valF a l
  | [], a => Nat.le_refl _
  | c :: l, a => by
    have := valF_ge l (a * 10 + dgV c)
    rw [valF_cons]; omega
theorem parse_dg : ∀ (l : List UInt8) (a : Nat), (∀ c ∈ l, isDg c = true) → valF a l < 18446744073709551616 → Lib.parseUint10 a l = .ok (valF a l)
  | [], a, _, _ => rfl
  | c :: l, a, h, hv => by
    have hc := isDg_iff.1 (h c (by simp))
    have hg := valF_ge l (a * 10 + dgV c)
    rw [valF_cons] at hv ⊢
    have hd : dgV c = c.toNat - 48 := rfl
    unfold Lib.parseUint10
    rw [if_pos hc, if_neg (by omega), if_neg (by omega)]
    have := parse_dg l (a * 10 + dgV c) (fun d hd' => h d (by simp [hd'])) hv
    rw [hd] at this ⊢
    exact this
theorem atoi_dec {n : Nat} (h : n < 9223372036854775808) : Lib.atoiAll (dec n) = .ok (n : Int) := by
  obtain ⟨c, r, e⟩ : ∃ c r, dec n = c :: r := by
    cases hh : dec n with
    | nil => exact absurd hh (dec_ne n)
    | cons c r => exact ⟨c, r, rfl⟩
  have hc := isDg_iff.1 (dec_dg n c (by rw [e]; simp))
  have hp : Lib.parseUint10 0 (dec n) = .ok n := by
    have := parse_dg (dec n) 0 (dec_dg n) (by rw [dec_val]; omega)
    rwa [dec_val] at this
  rw [e] at hp ⊢
  have h1 : ¬ (c.toNat = 43 ∨ c.toNat = 45) := by omega
  have h2 : ¬ c.toNat = 45 := by omega
  have hm : Lib.parseMag (if c.toNat = 43 ∨ c.toNat = 45 then r else c :: r) = .ok n := by
    rw [if_neg h1]
    unfold Lib.parseMag
    rw [if_neg (by simp), hp]
  unfold Lib.atoiAll
  simp only [hm]
  rw [if_neg (fun h => by omega), if_neg (fun h => h2 h.1), if_neg h2]
theorem itoa_nat (n : Nat) : Lib.itoa (n : Int) = dec n := by
  unfold Lib.itoa dec; rw [if_neg (by omega)]; simp

/-! ### A text cut at a byte -/
/-- The first piece begins with p. -/
def attach (p : List UInt8) : List (List UInt8) → List (List UInt8)
  | [] => [p]
  | x :: xs => (p ++ x) :: xs
theorem attach_nil (ws : List (List UInt8)) (h : ws ≠ []) : attach [] ws = ws := by cases ws with | nil => exact absurd rfl h | cons x xs => rfl
theorem attach_attach (p q : List UInt8) (ws : List (List UInt8)) (h : ws ≠ []) : attach p (attach q ws) = attach (p ++ q) ws := by
  cases ws with | nil => exact absurd rfl h | cons x xs => simp [attach]
theorem attach_ne (p : List UInt8) (ws : List (List UInt8)) : attach p ws ≠ [] := by cases ws <;> simp [attach]
theorem attach_len (p : List UInt8) (ws : List (List UInt8)) (h : ws ≠ []) : (attach p ws).length = ws.length := by
  cases ws with | nil => exact absurd rfl h | cons x xs => simp [attach]
def splW (b : UInt8) : List UInt8 → List (List UInt8)
  | [] => [[]]
  | c :: r => if c == b then [] :: splW b r else attach [c] (splW b r)
theorem splW_ne (b : UInt8) (l : List UInt8) : splW b l ≠ [] := by
  cases l with
  | nil => simp [splW]
  | cons c r => unfold splW; split <;> simp [attach_ne]
theorem splW_hit (b : UInt8) (r : List UInt8) : splW b (b :: r) = [] :: splW b r := by simp [splW]
theorem splW_miss {b c : UInt8} (h : (c == b) = false) (r : List UInt8) : splW b (c :: r) = attach [c] (splW b r) := by simp [splW, h]
theorem splW_len (b : UInt8) (l : List UInt8) : (splW b l).length ≤ l.length + 1 := by
  induction l with
  | nil => simp [splW]
  | cons c r ih =>
    unfold splW
    split
    · simp; exact ih
    · rw [attach_len _ _ (splW_ne b r)]; simp; omega
/-- The pieces with the byte between them. -/
def joinW (b : List UInt8) : List (List UInt8) → List UInt8
  | [] => []
  | [x] => x
  | x :: y :: r => x ++ b ++ joinW b (y :: r)
theorem joinW_cons (b x : List UInt8) (r : List (List UInt8)) (h : r ≠ []) : joinW b (x :: r) = x ++ b ++ joinW b r := by
  cases r with | nil => exact absurd rfl h | cons y r => rfl
theorem joinW_attach (b p : List UInt8) (ws : List (List UInt8)) (h : ws ≠ []) : joinW b (attach p ws) = p ++ joinW b ws := by
  cases ws with
  | nil => exact absurd rfl h
  | cons x xs =>
    cases xs with
    | nil => simp [attach, joinW]
    | cons y r => simp [attach, joinW]
theorem joinW_splW (b : UInt8) (l : List UInt8) : joinW [b] (splW b l) = l := by
  induction l with
  | nil => rfl
  | cons c r ih =>
    unfold splW
    split
    · next h =>
      have : c = b := by simpa using h
      subst this
      rw [joinW_cons _ _ _ (splW_ne c r), ih]; simp
    · rw [joinW_attach _ _ _ (splW_ne b r), ih]; simp
theorem splW_none {b : UInt8} {l : List UInt8} (h : ∀ c ∈ l, (c == b) = false) : splW b l = [l] := by
  induction l with
  | nil => rfl
  | cons c r ih => rw [splW_miss (h c (by simp)), ih fun d hd => h d (by simp [hd])]; rfl
theorem splW_app {b : UInt8} {x : List UInt8} (h : ∀ c ∈ x, (c == b) = false) (l : List UInt8) : splW b (x ++ b :: l) = x :: splW b l := by
  induction x with
  | nil => exact splW_hit b l
  | cons c r ih =>
    rw [List.cons_append, splW_miss (h c (by simp)), ih fun d hd => h d (by simp [hd])]; rfl
/-- Pieces without the byte come back. -/
theorem splW_joinW (b : UInt8) : ∀ (ws : List (List UInt8)), ws ≠ [] → (∀ w ∈ ws, ∀ c ∈ w, (c == b) = false) → splW b (joinW [b] ws) = ws
  | [], h, _ => absurd rfl h
  | [x], _, hw => splW_none (hw x (by simp))
  | x :: y :: r, _, hw => by
    have := splW_joinW b (y :: r) (by simp) (fun w h => hw w (by simp [h]))
    rw [joinW_cons _ _ _ (by simp), List.append_assoc, List.singleton_append, splW_app (hw x (by simp)), this]

/-- Cut at most k times. -/
def splN (b : UInt8) : Nat → List UInt8 → List (List UInt8)
  | 0, l => [l]
  | k + 1, [] => [[]]
  | k + 1, c :: r => if c == b then [] :: splN b k r else attach [c] (splN b (k + 1) r)
theorem splN_ne (b : UInt8) (k : Nat) (l : List UInt8) : splN b k l ≠ [] := by
  cases k with
  | zero => simp [splN]
  | succ k => cases l with
    | nil => simp [splN]
    | cons c r => unfold splN; split <;> simp [attach_ne]
theorem splitK_nil (b : UInt8) (k : Nat) : Lib.splitK [b] 0 k [] = [[]] := by
  cases k with
  | zero => rfl
  | succ k => simp [Lib.splitK, Lib.index]
theorem splitK_eq (b : UInt8) : ∀ (l : List UInt8) (k : Nat), Lib.splitK [b] 0 k l = splN b k l
  | [], k => by rw [splitK_nil]; cases k <;> rfl
  | c :: r, 0 => rfl
  | c :: r, k + 1 => by
    have ih0 := splitK_eq b r k
    have ih1 := splitK_eq b r (k + 1)
    by_cases h : c = b
    · subst h
      have e : Lib.index (c :: r) [c] = 0 := by simp [Lib.index]
      unfold Lib.splitK splN
      rw [e]
      simp [ih0]
    · have hcb : (c == b) = false := by simpa using h
      have hp : [b].isPrefixOf (c :: r) = false := by simp [List.isPrefixOf]; exact fun e => h e.symm
      have e : Lib.index (c :: r) [b] = if Lib.index r [b] == -1 then -1 else Lib.index r [b] + 1 := by
        rw [Lib.index]; rw [hp]; rfl
      unfold splN
      rw [hcb, ← ih1]
      simp only [Bool.false_eq_true, if_false]
      unfold Lib.splitK
      rw [e]
      by_cases hm : Lib.index r [b] = -1
      · simp [hm, attach]
      · have hg := Lib.index_ge r [b]
        have h0 : (Lib.index r [b] == -1) = false := by simpa using hm
        have h1 : (Lib.index r [b] + 1 == -1) = false := by
          have : ¬ Lib.index r [b] + 1 = -1 := by omega
          simpa using this
        obtain ⟨i, hi⟩ : ∃ i : Nat, Lib.index r [b] = i := ⟨(Lib.index r [b]).toNat, by omega⟩
        have h2 : (((i : Nat) : Int) + 1).toNat = i + 1 := by omega
        have h3 : ((i : Int) == -1) = false := by
          have : ¬ (i : Int) = -1 := by omega
          exact beq_eq_false_iff_ne.2 this
        have h4 : ((i : Int) + 1 == -1) = false := by
          have : ¬ (i : Int) + 1 = -1 := by omega
          simpa using this
        rw [hi]
        simp only [h3, h4, if_false, Bool.false_eq_true, h2, Int.toNat_natCast, Nat.add_zero, List.take_succ_cons, List.length_singleton, attach, List.singleton_append, List.drop_succ_cons]
theorem splN_all (b : UInt8) : ∀ (l : List UInt8) (k : Nat), (splW b l).length ≤ k + 1 → splN b k l = splW b l
  | [], k, _ => by cases k <;> rfl
  | c :: r, 0, h => by
    unfold splW at h ⊢
    by_cases hc : (c == b) = true
    · rw [if_pos hc] at h
      have := splW_ne b r
      simp at h
      exact absurd h this
    · rw [if_neg hc] at h ⊢
      rw [attach_len _ _ (splW_ne b r)] at h
      have := splN_all b r 0 h
      rw [← this]
      simp [splN, attach]
  | c :: r, k + 1, h => by
    unfold splW at h ⊢
    unfold splN
    by_cases hc : (c == b) = true
    · rw [if_pos hc] at h ⊢
      rw [if_pos hc, splN_all b r k (by simpa using h)]
    · rw [if_neg hc] at h ⊢
      rw [attach_len _ _ (splW_ne b r)] at h
      rw [if_neg hc, splN_all b r (k + 1) h]
theorem splN_more (b : UInt8) : ∀ (l : List UInt8) (k : Nat), k + 1 < (splW b l).length → (splN b k l).length = k + 1
  | [], k, h => by simp [splW] at h
  | c :: r, 0, _ => rfl
  | c :: r, k + 1, h => by
    unfold splW at h
    unfold splN
    by_cases hc : (c == b) = true
    · rw [if_pos hc] at h ⊢
      have := splN_more b r k (by simpa using h)
      simp [this]
    · rw [if_neg hc] at h ⊢
      rw [attach_len _ _ (splW_ne b r)] at h
      rw [attach_len _ _ (splN_ne b _ r), splN_more b r (k + 1) h]
end Go.Proofs.YtfmmkiijohnbfaaDoor
