/- The laws' marks on phrases: what is written, and that it is found again. -/
import Derived.Test.YtpogpehbkgjiaaaBkM
import Derived.Test.YtpogpehbkgjiaaaBk9
namespace Go.Proofs.Ytpogpehbkgjiaaa
open Go.RowKit
set_option linter.unusedSimpArgs false
set_option linter.unusedVariables false

/-- markIntS writes k, k + 1 .. into a slice of the call's own. -/
theorem markIntS_wide (B : Nat) (v : Value) (zs : List Int) (k0 : Int) (w : World) (h0 : 0 ≤ k0) (h1 : k0 ≤ 4398046511104) (hz : zs.length ≤ 1099511627776) (ho : Own w B v zs) :
    Calls Try.prog 22 #[v, .int .i64 k0] w fun e w' => e = .returned (.int .i64 (k0 + zs.length)) ∧ Own w' B v (markZ k0 zs.length) ∧ w.grownBy w' v.ownBlock := by
  rcases ho.cases with ⟨rfl, rfl⟩ | ⟨g, cap, rfl, hB, hg, hm⟩
  · go_enter Try.func22, Try.ntmps22
    go_wp2
    go_loopw [1, 5] (fun t i wr => i = .int .i64 0 ∧ t = .int .i64 k0 ∧ wr = w) (fun t i wr => 0)
    case atStart => exact ⟨rfl, rfl, rfl⟩
    case round =>
      obtain ⟨rfl, rfl, rfl⟩ := hrel
      go_wp2
      go_ret
      exact ⟨by simp, by simpa [markZ] using ho, World.grownBy.refl _ _⟩
  · obtain ⟨n, hn⟩ : ∃ n, n = zs.length := ⟨_, rfl⟩
    have HN := Lib.hid hn
    rw [← hn] at hz hm ⊢
    clear hn
    unfold maxLen at hm
    go_enter Try.func22, Try.ntmps22
    go_wp2
    go_loopw [1, 5] (fun t i wr => ∃ k : Nat, k ≤ n ∧ i = .int .i64 k ∧ t = .int .i64 (k0 + k) ∧ Own wr B (.slice (some ⟨g, 0, none⟩) n cap) (markZ k0 k ++ zs.drop k) ∧ w.grownBy wr (some g)) (fun t i wr => n - (intOf i).toNat)
    case atStart => exact ⟨0, Nat.zero_le _, rfl, by simp, by rw [HN.out] at *; simpa [markZ] using ho, World.grownBy.refl _ _⟩
    case round =>
      obtain ⟨k, hk, rfl, rfl, hown, hgr⟩ := hrel
      by_cases hlt : k < n
      · have hl := mark_len k0 zs k (by rw [← HN.out]; omega)
        have hst := World.ownsRow.stored (g := g) (n := n) (cap := cap) (by unfold Own at hown; rw [hl, ← HN.out] at hown; exact hown) k (.int .i64 (k0 + k))
        have hfz : wr.frozen? ⟨g, k, none⟩ = false := World.ownsRow.frozenAt (by unfold Own at hown; rw [hl, ← HN.out] at hown; exact hown) k
        obtain ⟨u, hcell⟩ : ∃ u, wr.cell? ⟨g, k, none⟩ = some u := by
          rw [World.ownsRow.cellAt (by unfold Own at hown; rw [hl, ← HN.out] at hown; exact hown) k (by omega)]
          exact ⟨_, List.getElem?_eq_getElem (by simp only [List.length_map]; rw [hl, ← HN.out]; exact hlt)⟩
        rw [mark_step k0 zs k (by rw [← HN.out]; exact hlt)] at hst
        have hl' := mark_len k0 zs (k + 1) (by rw [← HN.out]; omega)
        have HST := Lib.hid hst
        have HL := Lib.hid hl'
        clear hst hl hl' hown
        go_wp2
        go_roundw
        case rel => exact ⟨k + 1, by omega, by go_num, by go_num, by unfold Own; rw [HL.out, ← HN.out]; exact HST.out.1, hgr.trans HST.out.2⟩
        case measure => simp [intOf]; omega
      · have : k = n := by omega
        subst this
        go_wp2
        go_ret
        exact ⟨rfl, by rw [HN.out] at hown ⊢; simpa using hown, hgr⟩

/-- heldIntS at a slice that reads k, k + 1 ..: the sum. -/
theorem heldIntS_wide (v : Value) (n : Nat) (k0 : Int) (w : World) (h0 : 0 ≤ k0) (h1 : k0 ≤ 4398046511104) (hz : n ≤ 1099511627776) (hr : Rd w v (markZ k0 n)) :
    Calls Try.prog 23 #[v, .int .i64 k0] w fun e w' => e = .returned (.int .i64 (k0 + n)) ∧ w' = w := by
  rcases hr with ⟨he, a1, c1, rfl, -⟩ | ⟨g, off, cap, rfl, hg, hm, hc⟩
  · obtain rfl : n = 0 := by have := markZ_len k0 n; rw [he] at this; simpa using this.symm
    go_enter Try.func23, Try.ntmps23
    go_wp2
    go_loopw [1, 5] (fun t i wr => i = .int .i64 0 ∧ t = .int .i64 k0 ∧ wr = w) (fun t i wr => 0)
    case atStart => exact ⟨rfl, rfl, rfl⟩
    case round =>
      obtain ⟨rfl, rfl, rfl⟩ := hrel
      go_wp2
      go_ret
      exact ⟨by simp, rfl⟩
  · rw [markZ_len] at hc hm ⊢
    have hc' : ∀ i, i < n → w.cell? ⟨g, off + i, none⟩ = some (.int .i64 (k0 + i)) := fun i hi => by rw [hc i hi, markZ_get k0 n i hi]
    clear hc
    unfold maxLen at hm
    go_enter Try.func23, Try.ntmps23
    go_wp2
    go_loopw [1, 5] (fun t i wr => ∃ k : Nat, k ≤ n ∧ i = .int .i64 k ∧ t = .int .i64 (k0 + k) ∧ wr = w) (fun t i wr => n - (intOf i).toNat)
    case atStart => exact ⟨0, Nat.zero_le _, rfl, by simp, rfl⟩
    case round =>
      obtain ⟨k, hk, rfl, rfl, rfl⟩ := hrel
      by_cases hlt : k < n
      · have q := hc' k hlt
        clear hc'
        go_wp2
        go_roundw
        case rel => exact ⟨k + 1, by omega, by go_num, by go_num, by first | rfl | trivial⟩
        case measure => simp [intOf]; omega
      · have : k = n := by omega
        subst this
        clear hc'
        go_wp2
        go_ret
        exact ⟨rfl, rfl⟩


/-- Blocks below B and from C on are as they were. -/
structure KeptBC (B C : Nat) (w w' : World) : Prop where
  os : w'.os = w.os
  tape : w'.tape = w.tape
  output : w'.output = w.output
  size : w.heap.size ≤ w'.heap.size
  block : ∀ k, k < w.heap.size → (k < B ∨ C ≤ k) → w'.heap[k]? = w.heap[k]?
theorem KeptBC.refl (B C : Nat) (w : World) : KeptBC B C w w := ⟨rfl, rfl, rfl, Nat.le_refl _, fun _ _ _ => rfl⟩
theorem KeptBC.trans {B C : Nat} {a b c : World} (h : KeptBC B C a b) (k : KeptBC B C b c) : KeptBC B C a c :=
  ⟨k.os.trans h.os, k.tape.trans h.tape, k.output.trans h.output, Nat.le_trans h.size k.size, fun i hi hr => (k.block i (Nat.lt_of_lt_of_le hi h.size) hr).trans (h.block i hi hr)⟩
theorem KeptBC.of_below {B C : Nat} {a b : World} (h : Below a.heap.size a b) : KeptBC B C a b := ⟨h.os, h.tape, h.output, h.size, fun i hi _ => h.block i hi⟩
theorem KeptBC.of_grown {B C : Nat} {a b : World} {row : Option Nat} (h : a.grownBy b row) (hr : ∀ k, row = some k → B ≤ k ∧ k < C) : KeptBC B C a b :=
  ⟨h.os, h.tape, h.output, h.size, fun i hi hk => h.block i hi (fun e => by have := hr i e.symm; omega)⟩
theorem KeptBC.below {B C : Nat} {a b : World} (h : KeptBC B C a b) (hB : B ≤ a.heap.size) : Below B a b := ⟨h.os, h.tape, h.output, h.size, fun k hk => h.block k (by omega) (.inl hk)⟩
theorem KeptBC.own {B C D : Nat} {a b : World} {v : Value} {zs : List Int} (h : KeptBC B C a b) (ho : Own a D v zs) (hD : C ≤ D) : Own b D v zs := ho.same fun k hk hl => h.block k hl (.inr (by omega))
theorem KeptBC.ownPs {B C D : Nat} {a b : World} {v : Value} {ps : List Ph} (h : KeptBC B C a b) (ho : OwnPs a D v ps) (hD : C ≤ D) : OwnPs b D v ps := ho.same fun k hk hl => h.block k hl (.inr (by omega))

/-- OwnPs with the slices named, all blocks below C. -/
def OwnU (w : World) (B C : Nat) (v : Value) (ps : List Ph) (us : Nat → Value) : Prop :=
  w.ownsRow B 65 2 v ps.length (flat2 ps.length (fun i => .string (phAt ps i).txt) us) ∧
    (∀ i, i < ps.length → (phAt ps i).txt.size ≤ maxLen ∧ Own w B (us i) (phAt ps i).sig ∧ ∀ k, (us i).ownBlock = some k → k < C) ∧
    (∀ i j, i < ps.length → j < ps.length → i ≠ j → (us i).ownBlock = none ∨ (us i).ownBlock ≠ (us j).ownBlock) ∧ ∀ k, v.ownBlock = some k → k < C
theorem OwnPs.u {w : World} {B : Nat} {v : Value} {ps : List Ph} (h : OwnPs w B v ps) : ∃ us, OwnU w B w.heap.size v ps us := by
  obtain ⟨us, h1, h2, h3⟩ := h
  exact ⟨us, h1, fun i hi => ⟨(h2 i hi).1, (h2 i hi).2, fun k hk => ((h2 i hi).2.lt k hk).2⟩, h3, fun k hk => (h1.lt k hk).2⟩
theorem OwnU.ps {w : World} {B C : Nat} {v : Value} {ps : List Ph} {us : Nat → Value} (h : OwnU w B C v ps us) : OwnPs w B v ps := by
  obtain ⟨h1, h2, h3, -⟩ := h
  exact ⟨us, h1, fun i hi => ⟨(h2 i hi).1, (h2 i hi).2.1⟩, h3⟩
theorem OwnU.same {w w' : World} {B C : Nat} {v : Value} {ps : List Ph} {us : Nat → Value} (h : OwnU w B C v ps us) (hs : ∀ k, B ≤ k → k < w.heap.size → w'.heap[k]? = w.heap[k]?) : OwnU w' B C v ps us := by
  obtain ⟨h1, h2, h3, h4⟩ := h
  exact ⟨row_same h1 hs, fun i hi => ⟨(h2 i hi).1, (h2 i hi).2.1.same hs, (h2 i hi).2.2⟩, h3, h4⟩
theorem OwnU.later {w w' : World} {B C : Nat} {v : Value} {ps : List Ph} {us : Nat → Value} (h : OwnU w B C v ps us) (hb : Below w.heap.size w w') : OwnU w' B C v ps us := h.same fun k _ hl => hb.block k hl

/-- The text of phrase i is stored, then its slice is marked. -/
theorem OwnU.mark {w w3 : World} {B C g n cap i : Nat} {ps : List Ph} {us : Nat → Value} {s : ByteArray} {zs : List Int} (h : OwnU w B C (.slice (some ⟨g, 0, none⟩) n cap) ps us) (hn : ps.length = n) (hi : i < n) (hs : s.size ≤ maxLen)
    (hu : Own w3 B (us i) zs) (hg : (w.setCell ⟨g, i * 2, none⟩ (.string s)).grownBy w3 (us i).ownBlock) :
    OwnU w3 B C (.slice (some ⟨g, 0, none⟩) n cap) (ps.set i ⟨s, zs⟩) us ∧ KeptBC B C w w3 := by
  obtain ⟨h1, h2, h3, h4⟩ := h
  have hgl := h1.lt g rfl
  have hgC := h4 g rfl
  rw [hn] at h1
  obtain ⟨s1, g1⟩ := h1.stored (i * 2) (.string s)
  have hui := (h2 i (by omega)).2.1
  have huiC := (h2 i (by omega)).2.2
  have hne := rows_apart hui h1 (by decide)
  have hrow := s1.kept hg (by
    rcases hne with e | e
    · rw [e]; exact .inr (by simp [Value.ownBlock])
    · exact .inr (Ne.symm e))
  refine ⟨⟨?_, ?_, ?_, h4⟩, ?_⟩
  · rw [List.length_set, hn]
    have e : (flat2 n (fun j => .string (phAt ps j).txt) us).set (i * 2) (.string s) = flat2 n (fun j => .string (phAt (ps.set i ⟨s, zs⟩) j).txt) us := by
      apply List.ext_getElem?
      intro j
      rw [List.getElem?_set, flat2_len, flat2_get, flat2_get]
      by_cases hj : i * 2 = j
      · subst hj
        rw [if_pos rfl, if_pos (by omega), if_pos (by omega), if_pos (by omega), phAt_set (by omega), if_pos (by omega)]
      · rw [if_neg hj]
        by_cases hl : j < n * 2
        · rw [if_pos hl, if_pos hl]
          by_cases hev : j % 2 = 0
          · rw [if_pos hev, if_pos hev, phAt_set (by omega), if_neg (by omega)]
          · rw [if_neg hev, if_neg hev]
        · rw [if_neg hl, if_neg hl]
    rw [← e]
    exact hrow
  · intro j hj
    rw [List.length_set] at hj
    rw [phAt_set (by omega)]
    by_cases e : j = i
    · subst e
      rw [if_pos rfl]
      exact ⟨hs, hu, huiC⟩
    · rw [if_neg e]
      have hj2 := (h2 j hj).2.1
      have hj3 := hj2.kept g1 (by
        rcases rows_apart hj2 h1 (by decide) with e | e
        · exact .inl e
        · exact .inr e)
      exact ⟨(h2 j hj).1, hj3.kept hg (h3 j i hj (by omega) e), (h2 j hj).2.2⟩
  · intro a b ha hb hab
    rw [List.length_set] at ha hb
    exact h3 a b ha hb hab
  · exact (KeptBC.of_grown g1 (fun k hk => by cases hk; exact ⟨hgl.1, hgC⟩)).trans (KeptBC.of_grown hg (fun k hk => ⟨(hui.lt k hk).1, huiC k hk⟩))

/-! ### The marks -/
def markPs : Nat → List Ph → List Ph
  | _, [] => []
  | k, p :: ps => ⟨mtS k, markZ (k + 1 : Nat) p.sig.length⟩ :: markPs (k + 1 + p.sig.length) ps
def markN : Nat → List Ph → Nat
  | k, [] => k
  | k, p :: ps => markN (k + 1 + p.sig.length) ps
theorem markPs_len (k : Nat) (ps : List Ph) : (markPs k ps).length = ps.length := by
  induction ps generalizing k with
  | nil => rfl
  | cons p ps ih => simp [markPs, ih]
theorem markN_snoc (k : Nat) (ps : List Ph) (p : Ph) : markN k (ps ++ [p]) = markN k ps + 1 + p.sig.length := by
  induction ps generalizing k with
  | nil => rfl
  | cons q ps ih => simp [markN, ih]
theorem markPs_snoc (k : Nat) (ps : List Ph) (p : Ph) : markPs k (ps ++ [p]) = markPs k ps ++ [⟨mtS (markN k ps), markZ (markN k ps + 1 : Nat) p.sig.length⟩] := by
  induction ps generalizing k with
  | nil => rfl
  | cons q ps ih => simp [markPs, markN, ih]
theorem take_snoc_ph {ps : List Ph} {i : Nat} (hi : i < ps.length) : ps.take (i + 1) = ps.take i ++ [phAt ps i] := by
  rw [phAt_eq hi]; exact List.take_succ_eq_append_getElem hi
theorem markN_take {ps : List Ph} {k i : Nat} (hi : i < ps.length) : markN k (ps.take (i + 1)) = markN k (ps.take i) + 1 + (phAt ps i).sig.length := by
  rw [take_snoc_ph hi, markN_snoc]
theorem markN_bd {ps : List Ph} (hs : SmallPs ps) (k : Nat) : ∀ i, i ≤ ps.length → k ≤ markN k (ps.take i) ∧ markN k (ps.take i) ≤ k + i * 1048577
  | 0, _ => by simp [markN]
  | i + 1, hi => by
    have h1 := markN_bd hs k i (by omega)
    have h2 := (hs.2 i (by omega)).2
    rw [markN_take (by omega)]
    omega
/-- The first i phrases marked. -/
def midPs (k : Nat) (ps : List Ph) (i : Nat) : List Ph := markPs k (ps.take i) ++ ps.drop i
theorem midPs_len {k : Nat} {ps : List Ph} {i : Nat} (hi : i ≤ ps.length) : (midPs k ps i).length = ps.length := by simp [midPs, markPs_len]; omega
theorem midPs_at {k : Nat} {ps : List Ph} {i : Nat} (hi : i < ps.length) : phAt (midPs k ps i) i = phAt ps i := by
  unfold midPs phAt
  rw [List.getElem?_append_right (by rw [markPs_len]; simp; omega), markPs_len]
  simp [Nat.min_eq_left (Nat.le_of_lt hi)]
theorem midPs_step {k : Nat} {ps : List Ph} {i : Nat} (hi : i < ps.length) : (midPs k ps i).set i ⟨mtS (markN k (ps.take i)), markZ (markN k (ps.take i) + 1 : Nat) (phAt ps i).sig.length⟩ = midPs k ps (i + 1) := by
  unfold midPs
  have hl : (markPs k (ps.take i)).length = i := by rw [markPs_len]; simp; omega
  rw [List.set_append_right _ _ (by omega), hl, Nat.sub_self, List.drop_eq_getElem_cons hi, List.set_cons_zero, take_snoc_ph hi, markPs_snoc]
  simp
theorem midPs_all {k : Nat} {ps : List Ph} : midPs k ps ps.length = markPs k ps := by simp [midPs]

set_option maxHeartbeats 800000 in
theorem markPhraseS_any (B C : Nat) (v : Value) (ps : List Ph) (us : Nat → Value) (k0 : Nat) (w : World) (h0 : 1 ≤ k0) (h1 : k0 ≤ 1000000000) (hsm : SmallPs ps) (ho : OwnU w B C v ps us) :
    Calls Try.prog 57 #[v, .int .i64 k0] w fun e w' => e = .returned (.int .i64 (markN k0 ps)) ∧ OwnU w' B C v (markPs k0 ps) us ∧ KeptBC B C w w' := by
  obtain ⟨a, cap, rfl, -⟩ := ho.ps.rd.len
  have hbd := markN_bd hsm k0
  have hz := hsm.1
  obtain ⟨n, hn⟩ : ∃ n, n = ps.length := ⟨_, rfl⟩
  have HN := Lib.hid hn
  have HBD := Lib.hid hbd
  have HS := Lib.hid hsm
  rw [← hn] at hz ho ⊢
  clear hn hbd hsm
  go_enter Try.func57, Try.ntmps57
  go_wp2
  go_loopw [1, 5] (fun t i wr => ∃ j : Nat, j ≤ n ∧ i = .int .i64 j ∧ t = .int .i64 (markN k0 (ps.take j) : Nat) ∧ OwnU wr B C (.slice a n cap) (midPs k0 ps j) us ∧ KeptBC B C w wr) (fun t i wr => n - (intOf i).toNat)
  case atStart => exact ⟨0, Nat.zero_le _, rfl, by simp [markN], by simpa [midPs, markPs] using ho, KeptBC.refl _ _ _⟩
  case round =>
    obtain ⟨j, hj, rfl, rfl, hown, hkp⟩ := hrel
    have hm := HBD.out j (by rw [← HN.out]; exact hj)
    by_cases hlt : j < n
    · have hjl : j < ps.length := by rw [← HN.out]; exact hlt
      have hml : (midPs k0 ps j).length = n := by rw [midPs_len (by omega), HN.out]
      have hstep := Lib.hid (midPs_step (k := k0) hjl)
      have hmt := Lib.hid (markN_take (k := k0) hjl)
      have hat := midPs_at (k := k0) hjl
      have hsj := HS.out.2 j hjl
      obtain ⟨K, hK⟩ : ∃ K, K = markN k0 (ps.take j) := ⟨_, rfl⟩
      rw [← hK] at hm ⊢
      have HK := Lib.hid hK
      clear hK
      obtain ⟨g, rfl⟩ : ∃ g, a = some ⟨g, 0, none⟩ := by
        rcases hown.1.2 with ⟨h, -⟩ | ⟨g, c', cur, h, -⟩
        · simp only [Value.slice.injEq] at h
          exfalso; omega
        · simp only [Value.slice.injEq] at h
          exact ⟨g, h.1⟩
      have hu := (hown.2.1 j (by omega)).2.1
      rw [hat] at hu
      obtain ⟨ua, uc, he⟩ := hu.rd.len
      have HE := Lib.hid he
      have HO := Lib.hid hown
      have HU := Lib.hid hu
      clear hown hat he hu
      go_wp2_with fail
      refine (markText_any K _ (by omega) (by omega)).mono ?_
      rintro e w1 ⟨rfl, hb1⟩
      have ho1 := HO.out.later hb1
      obtain ⟨⟨x0, q0⟩, -, f0, -⟩ := ho1.ps.cellsAt hml j hlt
      have hrow := ho1.1
      rw [hml] at hrow
      have q1 : w1.cell? ⟨g, j * 2 + 1, none⟩ = some (.slice ua (phAt ps j).sig.length uc) := by
        rw [hrow.cellAt (j * 2 + 1) (by omega), flat2_odd _ _ _ _ hlt, HE.out]
      have q2 : (w1.setCell ⟨g, j * 2, none⟩ (.string (mtS K))).cell? ⟨g, j * 2 + 1, none⟩ = some (.slice ua (phAt ps j).sig.length uc) := by
        rw [World.cell?_setCell_other _ _ _ _ (by intro e; injection e with _ e _; omega)]; exact q1
      have hrs := hrow.stored (j * 2) (.string (mtS K))
      have hu2 : Own (w1.setCell ⟨g, j * 2, none⟩ (.string (mtS K))) B (.slice ua (phAt ps j).sig.length uc) (phAt ps j).sig := by
        have h1 := HU.out.later hb1
        rw [HE.out] at h1
        exact h1.kept hrs.2 (rows_apart h1 hrow (by decide))
      have HO1 := Lib.hid ho1
      clear ho1 hrow hrs
      go_wp2_with fail
      refine (markIntS_wide B _ (phAt ps j).sig ((K : Int) + 1) _ (by omega) (by omega) (by omega) hu2).mono ?_
      rintro e w3 ⟨rfl, hu3, hg3⟩
      have hM := HO1.out.mark (i := j) (s := mtS K) (zs := markZ ((K + 1 : Nat) : Int) (phAt ps j).sig.length) hml hlt (by have := mtS_size K; unfold maxLen; omega) (by rw [HE.out, show ((K + 1 : Nat) : Int) = (K : Int) + 1 by omega]; exact hu3) (by rw [HE.out]; exact hg3)
      rw [HK.out, hstep.out] at hM
      have HM := Lib.hid hM
      have hkp1 := hkp.trans (KeptBC.of_below hb1)
      clear hM hu3 hg3 hu2 q0 q1 q2 f0
      go_wp2
      go_roundw
      case rel => exact ⟨j + 1, by omega, by go_num, by rw [hmt.out, ← HK.out]; go_num, HM.out.1, hkp1.trans HM.out.2⟩
      case measure => simp [intOf]; omega
    · obtain rfl : j = n := by omega
      have HE : Hid (ps.take j = ps ∧ midPs k0 ps j = markPs k0 ps) := Lib.hid (by rw [HN.out]; exact ⟨List.take_length, midPs_all⟩)
      go_wp2
      go_ret
      exact ⟨ret_int (by rw [HE.out.1]), by rw [← HE.out.2]; exact hown, hkp⟩
end Go.Proofs.Ytpogpehbkgjiaaa
