/- Chapter 3: signals saved against single letters, on both sides. -/
import Derived.Test.YtpogpehbkgjiaaaSpV
import Derived.Test.YtpogpehbkgjiaaaSpZ
import Derived.Deep.RegionHeld3
namespace Go.Proofs.Ytpogpehbkgjiaaa
open Go.RowKit
set_option linter.unusedSimpArgs false
set_option linter.unusedVariables false

theorem loRest_exists (ps : List Ph) (s : ByteArray) : ∃ r, bookB ps = true → Rests ps s.size (txSt ps (loneS ps) s) r := by
  by_cases h : bookB ps = true
  · obtain ⟨r, hr⟩ := rests_exists ps (txSt_ahead h (loneS ps) s)
    exact ⟨r, fun _ => hr⟩
  · exact ⟨fun _ => noRst, fun e => absurd e h⟩
noncomputable def loR (ps : List Ph) (s : ByteArray) : Nat → Rst := Classical.choose (loRest_exists ps s)
theorem loR_is {ps : List Ph} {s : ByteArray} (h : bookB ps = true) : Rests ps s.size (txSt ps (loneS ps) s) (loR ps s) := Classical.choose_spec (loRest_exists ps s) h
/-- The phrase that is one letter. -/
def letP (ps : List Ph) (s : ByteArray) (a : Nat) : Int := txtPos ps (s.extract a (a + 1))
theorem txtPos_lt {ps : List Ph} {s : ByteArray} (h : 0 ≤ txtPos ps s) : (txtPos ps s).toNat < ps.length ∧ (phAt ps (txtPos ps s).toNat).txt = s := by
  unfold txtPos at h ⊢
  split
  · next hl => exact ⟨by simpa using hl, by simpa using txtIdx_at hl⟩
  · next hl => rw [if_neg hl] at h; omega
theorem letP_step {ps : List Ph} {s : ByteArray} {a : Nat} {sel : Nat → Bool} (ha : a < s.size) (h : 0 ≤ letP ps s a) (hsel : sel (letP ps s a).toNat = true) : ((letP ps s a).toNat, a + 1) ∈ txSt ps sel s a := by
  obtain ⟨h1, h2⟩ := txtPos_lt h
  have hsz : (phAt ps (letP ps s a).toNat).txt.size = 1 := by
    show (phAt ps (txtPos ps (s.extract a (a + 1))).toNat).txt.size = 1
    rw [h2, ByteArray.size_extract]; omega
  have hf : fitT (phAt ps (letP ps s a).toNat).txt s a = true := by
    unfold fitT
    rw [hsz]
    have : (phAt ps (letP ps s a).toNat).txt = s.extract a (a + 1) := h2
    rw [this]
    simp; omega
  have := mem_stepsOf (en := fun i => a + (phAt ps i).txt.size) (fits := fun i => sel i && fitT (phAt ps i).txt s a) h1 (by
    show (sel (letP ps s a).toNat && fitT (phAt ps (letP ps s a).toNat).txt s a) = true
    rw [hsel, hf]; rfl)
  have e : ((letP ps s a).toNat, a + 1) = ((letP ps s a).toNat, a + (phAt ps (letP ps s a).toNat).txt.size) := by rw [hsz]
  rw [e]; exact this
theorem letP_lone {ps : List Ph} {s : ByteArray} {a : Nat} (ha : a < s.size) (h : 0 ≤ letP ps s a) : loneS ps (letP ps s a).toNat = true := by
  obtain ⟨h1, h2⟩ := txtPos_lt h
  have : (phAt ps (letP ps s a).toNat).txt = s.extract a (a + 1) := h2
  unfold loneS
  rw [this, ByteArray.size_extract]; simp; omega
theorem lo_next {ps : List Ph} {s : ByteArray} (hb : bookB ps = true) (hs : s.size ≤ 40) {a : Nat} (ha : a < s.size) (hx : (loR ps s a).ex = true) :
    0 ≤ letP ps s a ∧ (loR ps s a).len = (phAt ps (letP ps s a).toNat).sig.length + (loR ps s (a + 1)).len ∧ (loR ps s (a + 1)).ex = true := by
  have hR := loR_is (s := s) hb
  have hm := (tx_fold hb (by omega) hR ha ps.length (Nat.le_refl _)).1
  have hra : loR ps s a = foldR ps (loR ps s) (stepsOf (fun i => loneS ps i && fitT (phAt ps i).txt s a) (fun i => a + (phAt ps i).txt.size) ps.length) := hR.2 a ha
  rw [← hra] at hm
  rcases hm with ⟨h1, -⟩ | ⟨h1, h2, h3, h4, h5, h6, h7⟩
  · rw [h1] at hx; cases hx
  · simp only [Bool.and_eq_true] at h3
    have hbt := book_tx hb h2
    have hsz : (phAt ps (loR ps s a).ph).txt.size = 1 := by
      have h8 := h3.1.1
      unfold loneS at h8
      simp at h8
      omega
    obtain ⟨f1, f2⟩ := fitT_le h3.1.2
    rw [hsz] at f1 f2
    have he : (phAt ps (loR ps s a).ph).txt = s.extract a (a + 1) := (bytes_ext f2).symm
    have hp : letP ps s a = ((loR ps s a).ph : Int) := by
      unfold letP
      exact txtPos_yes h2 he fun j hj hjt => by
        have := book_dist hb j (loR ps s a).ph (by omega) h2 (by rw [hjt, he])
        omega
    have hcost : (loR ps s a).len = (phAt ps (loR ps s a).ph).sig.length + (loR ps s (a + (phAt ps (loR ps s a).ph).txt.size)).len := h5
    rw [hsz] at hcost
    have hex := h3.2
    rw [hsz] at hex
    rw [hp]
    exact ⟨by omega, by simpa using hcost, hex⟩
theorem lo_back {ps : List Ph} {s : ByteArray} (hb : bookB ps = true) {a : Nat} (ha : a < s.size) (h : 0 ≤ letP ps s a) (hx : (loR ps s (a + 1)).ex = true) : (loR ps s a).ex = true := by
  rw [(loR_is (s := s) hb).2 a ha, foldR_ex, List.any_eq_true]
  exact ⟨_, letP_step ha h (letP_lone ha h), hx⟩
theorem lo_all {ps : List Ph} {s : ByteArray} (hb : bookB ps = true) (h : ∀ a, a < s.size → 0 ≤ letP ps s a) : ∀ d a, s.size - a ≤ d → a ≤ s.size → (loR ps s a).ex = true
  | 0, a, hd, ha => by
    obtain rfl : a = s.size := by omega
    rw [(loR_is hb).1]; rfl
  | d + 1, a, hd, ha => by
    by_cases e : a = s.size
    · subst e; rw [(loR_is hb).1]; rfl
    · exact lo_back hb (by omega) (h a (by omega)) (lo_all hb h d (a + 1) (by omega) (by omega))
theorem lo_every {ps : List Ph} {s : ByteArray} (hb : bookB ps = true) (hs : s.size ≤ 40) (h : (loR ps s 0).ex = true) : ∀ a, a ≤ s.size → (loR ps s a).ex = true
  | 0, _ => h
  | a + 1, ha => (lo_next hb hs (by omega) (lo_every hb hs h a (by omega))).2.2
theorem lo_spelled {ps : List Ph} {s : ByteArray} (hb : bookB ps = true) (hs : s.size ≤ 40) (h : (loR ps s 0).ex = true) : ∀ d a, s.size - a ≤ d → a ≤ s.size → (txR ps s a).ex = true
  | 0, a, hd, ha => by
    obtain rfl : a = s.size := by omega
    rw [(txR_is hb).1]; rfl
  | d + 1, a, hd, ha => by
    by_cases e : a = s.size
    · subst e; rw [(txR_is hb).1]; rfl
    · have hp := (lo_next hb hs (show a < s.size by omega) (lo_every hb hs h a ha)).1
      rw [(txR_is (s := s) hb).2 a (by omega), foldR_ex, List.any_eq_true]
      exact ⟨_, letP_step (sel := allS) (by omega) hp rfl, lo_spelled hb hs h d (a + 1) (by omega) (by omega)⟩
/-- The sum over the first k letters. -/
def sumL (ps : List Ph) (s : ByteArray) : Nat → Int
  | 0 => 0
  | k + 1 => sumL ps s k + ((phAt ps (letP ps s k).toNat).sig.length : Int)
theorem sumL_len {ps : List Ph} {s : ByteArray} (hb : bookB ps = true) (hs : s.size ≤ 40) (h : (loR ps s 0).ex = true) : ∀ k, k ≤ s.size → sumL ps s k + (loR ps s k).len = (loR ps s 0).len
  | 0, _ => by simp [sumL]
  | k + 1, hk => by
    have ih := sumL_len hb hs h k (by omega)
    have hn := lo_next hb hs (show k < s.size by omega) (lo_every hb hs h k (by omega))
    simp only [sumL]
    omega
theorem sumL_bd {ps : List Ph} {s : ByteArray} (hb : bookB ps = true) : ∀ k, (∀ j, j < k → 0 ≤ letP ps s j) → 0 ≤ sumL ps s k ∧ sumL ps s k ≤ 3 * (k : Int)
  | 0, _ => by simp [sumL]
  | k + 1, h => by
    have ih := sumL_bd (s := s) hb k fun j hj => h j (by omega)
    have h1 := (txtPos_lt (h k (by omega))).1
    have h2 := (book_sig hb h1).2
    have h3 : (phAt ps (letP ps s k).toNat).sig.length ≤ 3 := h2
    simp only [sumL]
    omega
noncomputable def svC (ps : List Ph) (s : ByteArray) : Bool := askB ps s && (loR ps s 0).ex
noncomputable def svN (ps : List Ph) (s : ByteArray) : Int := okI (svC ps s) ((loR ps s 0).len - lsN ps s)
theorem svC_no1 {ps : List Ph} {s : ByteArray} (h : askB ps s = false) : svC ps s = false := by simp [svC, h]
theorem svC_no2 {ps : List Ph} {s : ByteArray} (h : (loR ps s 0).ex = false) : svC ps s = false := by simp [svC, h]
theorem svC_yes {ps : List Ph} {s : ByteArray} (h : askB ps s = true) (h2 : (loR ps s 0).ex = true) : svC ps s = true := by simp [svC, h, h2]
theorem svN_no {ps : List Ph} {s : ByteArray} (h : svC ps s = false) : svN ps s = 0 := by unfold svN; rw [h]; rfl
theorem svN_yes {ps : List Ph} {s : ByteArray} (h : svC ps s = true) : svN ps s = (loR ps s 0).len - lsN ps s := by unfold svN; rw [h]; rfl
theorem svC_sl {ps : List Ph} {s : ByteArray} (h : svC ps s = true) : slC ps s = true := by
  have h' : askB ps s = true ∧ (loR ps s 0).ex = true := by simpa [svC] using h
  rw [slC_yes h'.1]
  exact lo_spelled (askB_book h'.1) (msgB_len (askB_msg h'.1)) h'.2 s.size 0 (by omega) (by omega)

set_option maxRecDepth 100000 in
set_option maxHeartbeats 1000000 in
theorem implSaved_any (v : Value) (ps : List Ph) (s : ByteArray) (w : World) (hs : s.size ≤ maxLen) (hr : RdPs w v ps) :
    Calls Try.prog 44 #[.agg #[v], .string s] w fun e w' => e = .returned (.tuple #[.int .i64 (svN ps s), .bool (svC ps s)]) ∧ Below w.heap.size w w' := by
  obtain ⟨a, cap, rfl, -⟩ := hr.len
  have hb0 := (Below.refl w.heap.size w).alloc (Nat.le_refl _) (.cells #[.slice a ps.length cap] 31)
  have hrW := hr.later hb0
  have hx0 : (w.alloc (.cells #[.slice a ps.length cap] 31)).cell? ⟨w.heap.size, 0, none⟩ = some (.slice a ps.length cap) := by simp [go_sem]
  have hsz0 : w.heap.size < (w.alloc (.cells #[.slice a ps.length cap] 31)).heap.size := by simp
  go_enter Try.func44, Try.ntmps44
  go_wp2_with fail
  generalize w.alloc (.cells #[.slice a ps.length cap] 31) = W at *
  refine (implLeast_any _ ps s _ hs hrW).mono ?_
  rintro e w1 ⟨rfl, hb1⟩
  have c1 := hx0 ▸ hb1.cell (p := ⟨w.heap.size, 0, none⟩) hsz0
  have hB1 := hb0.trans (hb1.mono hb0.size)
  obtain ⟨ls, hls⟩ : ∃ ls, ls = lsN ps s := ⟨_, rfl⟩
  have HLS := Lib.hid hls
  rw [← hls]
  clear hls
  cases hC : slC ps s with
  | false =>
    have HC : Hid (svC ps s = false) := Lib.hid (by
      cases h : svC ps s with
      | false => rfl
      | true => rw [svC_sl h] at hC; cases hC)
    have hN := Lib.hid (svN_no HC.out)
    clear hC
    go_wp2
    go_ret2
    exact ⟨by rw [hN.out, HC.out]; rfl, hB1⟩
  | true =>
    have hask : askB ps s = true := by have h := hC; simp [slC] at h; exact h.1
    have hbk := askB_book hask
    have hl := msgB_len (askB_msg hask)
    have HASK := Lib.hid hask
    have HRS := Lib.hid (loR_is (s := s) hbk)
    have HAH := Lib.hid (txSt_ahead hbk (loneS ps) s)
    have HLSB : Hid (0 ≤ ls ∧ ls ≤ 1048576) := Lib.hid (by rw [HLS.out, lsN_is]; have := encL_len ps s; omega)
    clear hC hask
    have hbD := (Below.refl w1.heap.size w1).drew
    have hs1 : w.heap.size < w1.drew.heap.size := by have := hb1.size; simp; omega
    have c1D : w1.drew.cell? ⟨w.heap.size, 0, none⟩ = some (.slice a ps.length cap) := by simpa [go_sem] using c1
    have K1 : Hid (∀ w3 : World, Below w1.drew.heap.size w1.drew w3 → w3.cell? ⟨w.heap.size, 0, none⟩ = some (.slice a ps.length cap)) := Lib.hid fun w3 h => by rw [h.cell (p := ⟨w.heap.size, 0, none⟩) hs1]; exact c1D
    have hrD := (hrW.later hb1).later hbD
    have hB1D := hB1.drew
    go_wp2
    go_region_held3 (fun w' => w'.cell? ⟨w.heap.size, 0, none⟩ = some (.slice a ps.length cap))
      (first | go_keep | exact K1.out _ hb3 | exact K1.out _ hb34 | exact K1.out _ hb35)
      (first | (go_at_call 74; refine (lonePhrases_any _ ps w1.drew hbk hrD).mono ?_; rintro e w3 ⟨bm, rfl, hmap, hbm, hb3⟩) | (go_at_call 54; refine (textSteps_any bm s ps (loneS ps) _ hbk hl hmap).mono ?_; rintro e w4 ⟨v4, rfl, hss, hb4⟩; obtain ⟨g2, rfl, hg2⟩ := hss.v; have hb34 := hb3.trans (hb4.mono hb3.size)) | (go_at_call 53; refine (leastList_any _ _ ps s.size (txSt ps (loneS ps) s) (loR ps s) (pathL (loR ps s) s.size) _ (by omega) (hrD.later hb34) hss HAH.out (txSt_inside ps (loneS ps) s) (txSt_len hbk (loneS ps) s) (bookB_len hbk).2 HRS.out (fun h => pathL_is HRS.out HAH.out h)).mono ?_; rintro e w5 ⟨v5, rfl, ho5, hb5⟩; have hb35 := hb34.trans (hb5.mono hb34.size)))
    have c5 := K1.out _ hb35
    have hB5 := hB1D.trans (hb35.mono hB1D.size)
    cases hx : (loR ps s 0).ex with
    | false =>
      have HC : Hid (svC ps s = false) := Lib.hid (svC_no2 hx)
      have hN := Lib.hid (svN_no HC.out)
      clear hx
      go_wp2
      go_ret2
      exact ⟨by rw [hN.out, HC.out]; rfl, hB5⟩
    | true =>
      have HC : Hid (svC ps s = true) := Lib.hid (svC_yes HASK.out hx)
      have hN := Lib.hid (svN_yes HC.out)
      rw [hx, if_pos rfl] at ho5
      have hpath := pathL_is HRS.out HAH.out hx
      have HIN := Lib.hid (path_in hpath (rests_lead HRS.out HAH.out) (rests_inside HRS.out (txSt_inside ps (loneS ps) s)) hx)
      have HLEN := Lib.hid (path_cost hbk (by omega) HRS.out hpath hx)
      have HPL : Hid ((pathL (loR ps s) s.size).length ≤ 60) := Lib.hid (by have := hpath.len; omega)
      have HSML := Lib.hid ((tx_small hbk (by omega) HRS.out s.size 0 (by omega) (by omega) hx))
      clear hx hpath
      go_wp2_with fail
      refine (joinedSignals_any _ _ ps (pathL (loR ps s) s.size) _ (hrD.later hb35) ho5.rdc hbk HIN.out HPL.out).mono ?_
      rintro e w6 ⟨v6, rfl, ho6, hb6⟩
      obtain ⟨l, hle⟩ : ∃ l, l = sgL ps (pathL (loR ps s) s.size) := ⟨_, rfl⟩
      have HLE := Lib.hid hle
      rw [← hle] at ho6
      obtain ⟨av, cv, rfl⟩ := ho6.rd.len
      obtain ⟨n, hn⟩ : ∃ n, n = l.length := ⟨_, rfl⟩
      have HN := Lib.hid hn
      rw [← hn]
      have HNV : Hid ((n : Int) = (loR ps s 0).len) := Lib.hid (by rw [hn, hle]; exact HLEN.out)
      obtain ⟨d, hd⟩ : ∃ d : Int, d = (n : Int) - ls := ⟨_, rfl⟩
      have HD := Lib.hid hd
      have hw : IntKind.i64.wrap ((n : Int) - ls) = d := by rw [hd]; exact IntWalk.i64_in _ (by have h1 := HNV.out; have h2 := HSML.out; have h3 := HLSB.out; omega)
      clear hle hn hd ho6
      go_wp2
      go_ret2
      exact ⟨by rw [hN.out, HC.out, ← HNV.out, ← HLS.out, ← HD.out]; rfl, hB5.trans (hb6.mono hB5.size)⟩

theorem bkFind_is (v : Value) (ps : List Ph) (s : ByteArray) (z : Int) (w : World) (h : txtPos ps s = z) (hr : RdPs w v ps) :
    Calls Try.prog 76 #[.agg #[v], .string s] w fun e w' => e = .returned (.int .i64 z) ∧ Below w.heap.size w w' := by subst h; exact bkFind_any v ps s w hr

set_option maxRecDepth 100000 in
set_option maxHeartbeats 1000000 in
theorem specSaved_any (v : Value) (ps : List Ph) (s : ByteArray) (w : World) (hs : s.size ≤ maxLen) (hr : RdPs w v ps) :
    Calls Try.prog 43 #[.agg #[v], .string s] w fun e w' => e = .returned (.tuple #[.int .i64 (svN ps s), .bool (svC ps s)]) ∧ Below w.heap.size w w' := by
  obtain ⟨a, cap, rfl, -⟩ := hr.len
  have hb0 := (Below.refl w.heap.size w).alloc (Nat.le_refl _) (.cells #[.slice a ps.length cap] 31)
  have hrW := hr.later hb0
  have hx0 : (w.alloc (.cells #[.slice a ps.length cap] 31)).cell? ⟨w.heap.size, 0, none⟩ = some (.slice a ps.length cap) := by simp [go_sem]
  have hsz0 : w.heap.size < (w.alloc (.cells #[.slice a ps.length cap] 31)).heap.size := by simp
  cases hask : askB ps s with
  | false =>
    have HC := Lib.hid (svC_no1 hask)
    have hN := Lib.hid (svN_no HC.out)
    go_enter Try.func43, Try.ntmps43
    go_wp2_with fail
    generalize w.alloc (.cells #[.slice a ps.length cap] 31) = W at *
    refine (spAsked_is _ ps s false _ hask hs hrW).mono ?_
    rintro e w1 ⟨rfl, hb1⟩
    go_wp2
    go_ret2
    exact ⟨by rw [hN.out, HC.out]; rfl, hb0.trans (hb1.mono hb0.size)⟩
  | true =>
    have hbk := askB_book hask
    have hl := msgB_len (askB_msg hask)
    have HASK := Lib.hid hask
    have HB := Lib.hid hbk
    go_enter Try.func43, Try.ntmps43
    go_wp2_with fail
    generalize w.alloc (.cells #[.slice a ps.length cap] 31) = W at *
    refine (spAsked_is _ ps s true _ hask hs hrW).mono ?_
    rintro e w1 ⟨rfl, hb1⟩
    have HX := Lib.hid (hx0 ▸ hb1.cell (p := ⟨w.heap.size, 0, none⟩) hsz0)
    have hsz1 : w.heap.size < w1.heap.size := Nat.lt_of_lt_of_le hsz0 hb1.size
    have hB1 := hb0.trans (hb1.mono hb0.size)
    have HR := Lib.hid (hrW.later hb1)
    obtain ⟨np, hnp⟩ : ∃ np, np = ps.length := ⟨_, rfl⟩
    have HNP := Lib.hid hnp
    rw [← hnp] at HX HR ⊢
    clear hnp hask hbk hrW hr hx0
    go_wp2
    go_loopw [6, 7] (fun sv i wr => ∃ (k : Nat) (z : Int), k ≤ s.size ∧ i = .int .i64 k ∧ sv = .int .i64 z ∧ Hid (z = sumL ps s k) ∧ Hid (∀ j, j < k → 0 ≤ letP ps s j) ∧ Below w1.heap.size w1 wr) (fun _ i _ => s.size - (intOf i).toNat)
    case atStart => exact ⟨0, 0, Nat.zero_le _, rfl, rfl, Lib.hid rfl, Lib.hid fun j hj => by omega, Below.refl _ _⟩
    case round =>
      obtain ⟨k, z, hk, rfl, rfl, hz, hall, hbl⟩ := hrel
      have hxw : wr.cell? ⟨w.heap.size, 0, none⟩ = some (.slice a np cap) := by rw [hbl.cell (p := ⟨w.heap.size, 0, none⟩) hsz1]; exact HX.out
      have hszw : w.heap.size < wr.heap.size := Nat.lt_of_lt_of_le hsz1 hbl.size
      have HSB := Lib.hid (sumL_bd HB.out k hall.out)
      by_cases hlt : k < s.size
      · have hkI : (k : Int) < (s.size : Int) := by omega
        obtain ⟨k1, hk1e⟩ : ∃ k1, k1 = k + 1 := ⟨_, rfl⟩
        have HK1 := Lib.hid hk1e
        have hwk : IntKind.i64.wrap ((k : Int) + 1) = (k1 : Int) := by rw [hk1e, IntWalk.i64_in _ (by omega)]; omega
        have hk1 : (k : Int) ≤ (k1 : Int) := by omega
        have hk2 : (k1 : Int) ≤ (s.size : Int) := by omega
        have hk3 : k ≤ k1 := by omega
        have hk4 : k1 ≤ s.size := by omega
        have hbD := (Below.refl wr.heap.size wr).drew
        have hrD : RdPs wr.drew (.slice a np cap) ps := (HR.out.later hbl).later hbD
        have hs1 : w.heap.size < wr.drew.heap.size := by simpa using hszw
        have c1D : wr.drew.cell? ⟨w.heap.size, 0, none⟩ = some (.slice a np cap) := by simpa [go_sem] using hxw
        have K1 : Hid (∀ w3 : World, Below wr.drew.heap.size wr.drew w3 → w3.cell? ⟨w.heap.size, 0, none⟩ = some (.slice a np cap)) := Lib.hid fun w3 h => by rw [h.cell (p := ⟨w.heap.size, 0, none⟩) hs1]; exact c1D
        obtain ⟨pz, hpz⟩ : ∃ pz, letP ps s k = pz := ⟨_, rfl⟩
        have HPZ := Lib.hid hpz
        have HPY : Hid (txtPos ps (s.extract k k1) = pz) := Lib.hid (by rw [hk1e]; exact hpz)
        have hblD := hbl.drew
        clear hpz hk1e
        go_wp2_with fail
        go_region_held3 (fun w' => w'.cell? ⟨w.heap.size, 0, none⟩ = some (.slice a np cap))
          (first | go_keep | exact K1.out _ hb3)
          ((go_at_call 76; refine (bkFind_is _ ps (s.extract k k1) pz wr.drew HPY.out hrD).mono ?_; rintro e w3 ⟨rfl, hb3⟩))
        have c3 := K1.out _ hb3
        have hbl3 := hblD.trans (hb3.mono hblD.size)
        by_cases hneg : pz < 0
        · have HNX : Hid (svC ps s = false) := Lib.hid (by
            cases hx : (loR ps s 0).ex with
            | false => exact svC_no2 hx
            | true => have h1 := (lo_next HB.out hl hlt (lo_every HB.out hl hx k hk)).1; have h2 := HPZ.out; omega)
          have hN := Lib.hid (svN_no HNX.out)
          go_wp2
          go_ret2
          exact ⟨by rw [hN.out, HNX.out]; rfl, hB1.trans (hbl3.mono hB1.size)⟩
        · obtain ⟨i, rfl⟩ : ∃ i : Nat, pz = i := ⟨pz.toNat, by omega⟩
          have hi := txtPos_lt (ps := ps) (s := s.extract k (k + 1)) (by have := HPZ.out; unfold letP at this; omega)
          have hi2 : i < np := by
            have h1 := HPZ.out
            unfold letP at h1
            rw [h1] at hi
            rw [HNP.out]; simpa using hi.1
          obtain ⟨g, off, us, hag, hg, hts, hd0, hd1, hru⟩ := (HR.out.below hbl3 (Nat.le_refl _)).at_ HNP.out i hi2
          subst hag
          obtain ⟨ua, uc, rfl⟩ := hru.rd.len
          obtain ⟨sl, hsl⟩ : ∃ sl, sl = (phAt ps i).sig.length := ⟨_, rfl⟩
          have HSL := Lib.hid hsl
          have hs3 := (book_sig HB.out (i := i) (by rw [← HNP.out]; exact hi2)).2
          rw [← hsl] at hd1 hs3
          have hiI : (i : Int) < (np : Int) := by omega
          obtain ⟨nz, hnz⟩ : ∃ nz : Int, nz = z + (sl : Int) := ⟨_, rfl⟩
          have hwz : IntKind.i64.wrap (z + (sl : Int)) = nz := by rw [hnz]; exact IntWalk.i64_in _ (by have h1 := HSB.out; have h2 := hz.out; omega)
          have HNZ : Hid (nz = sumL ps s (k + 1)) := Lib.hid (by simp only [sumL]; rw [HPZ.out, hnz, hz.out, hsl]; rfl)
          have hall' : Hid (∀ j, j < k + 1 → 0 ≤ letP ps s j) := Lib.hid fun j hj => by
            by_cases e : j = k
            · subst e; have := HPZ.out; omega
            · exact hall.out j (by omega)
          clear hsl hnz hru hi
          go_wp2
          go_roundw
          case rel => exact ⟨k1, nz, hk4, rfl, rfl, by rw [HK1.out]; exact HNZ, by rw [HK1.out]; exact hall', hbl3⟩
          case measure => have := HK1.out; simp [intOf]; omega
      · obtain rfl : k = s.size := by omega
        have hx := lo_all HB.out hall.out s.size 0 (by omega) (by omega)
        have HC : Hid (svC ps s = true) := Lib.hid (svC_yes HASK.out hx)
        have hN := Lib.hid (svN_yes HC.out)
        have HSUM : Hid (z = (loR ps s 0).len) := Lib.hid (by
          have h1 := sumL_len HB.out hl hx s.size (Nat.le_refl _)
          rw [(loR_is HB.out).1] at h1
          rw [hz.out]; simp [endRst] at h1; omega)
        have HTX := Lib.hid (lo_spelled HB.out hl hx s.size 0 (by omega) (by omega))
        obtain ⟨t0, ht0⟩ : ∃ t0, tv (txR ps s 0) = t0 := ⟨_, rfl⟩
        have HT0 := Lib.hid ht0
        have HLSN : Hid (lsN ps s = t0) := Lib.hid (by rw [lsN_yes (svC_sl HC.out), ← ht0, tv_yes HTX.out])
        have HT0B : Hid (0 ≤ t0 ∧ t0 ≤ 1048576) := Lib.hid (by rw [← HLSN.out, lsN_is]; have := encL_len ps s; omega)
        obtain ⟨d, hd⟩ : ∃ d : Int, d = z - t0 := ⟨_, rfl⟩
        have HD := Lib.hid hd
        have hw : IntKind.i64.wrap (z - t0) = d := by rw [hd]; exact IntWalk.i64_in _ (by have h1 := HSB.out; have h2 := hz.out; have h3 := HT0B.out; omega)
        clear hx ht0 hd
        go_wp2_with fail
        refine (spTable_any _ ps s (txR ps s) _ HB.out hl (HR.out.later hbl) (txR_is HB.out)).mono ?_
        rintro e w3 ⟨g, rfl, hrow, hb3⟩
        have hc0 : w3.cell? ⟨g, 0, none⟩ = some (.int .i64 (tv (txR ps s 0))) := hrow.at_ 0 (by omega)
        rw [HT0.out] at hc0
        obtain ⟨m, hm'⟩ : ∃ m, m = s.size + 1 := ⟨_, rfl⟩
        rw [← hm']
        have hm2 : (0 : Int) < (m : Int) := by omega
        clear hrow hm'
        go_wp2
        go_ret2
        exact ⟨by rw [hN.out, HC.out, HLSN.out, ← HSUM.out, ← HD.out]; rfl, hB1.trans ((hbl.trans (hb3.mono hbl.size)).mono hB1.size)⟩
end Go.Proofs.Ytpogpehbkgjiaaa
