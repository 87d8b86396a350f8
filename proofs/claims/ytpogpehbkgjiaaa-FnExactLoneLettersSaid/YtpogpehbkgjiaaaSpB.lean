/- Chapter 3: the texts of phrases, one after the other. -/
import Derived.Test.YtpogpehbkgjiaaaSp5
import Derived.Test.YtpogpehbkgjiaaaBuild
import Derived.Test.YtpogpehbkgjiaaaShelf
namespace Go.Proofs.Ytpogpehbkgjiaaa
open Go.RowKit
set_option linter.unusedSimpArgs false
set_option linter.unusedVariables false

/-- The texts of phrases, one after the other. -/
def txtL (ps : List Ph) (l : List Int) : List UInt8 := l.flatMap fun i => (phAt ps i.toNat).txt.data.toList
def txtB (ps : List Ph) (l : List Int) : ByteArray := ⟨(txtL ps l).toArray⟩
theorem txtL_snoc (ps : List Ph) (l : List Int) (i : Int) : txtL ps (l ++ [i]) = txtL ps l ++ (phAt ps i.toNat).txt.data.toList := by simp [txtL]
theorem txtL_len (ps : List Ph) (n : Nat) (hp : ∀ i, i < ps.length → (phAt ps i).txt.size ≤ n) : ∀ l : List Int, (∀ i ∈ l, i.toNat < ps.length) → (txtL ps l).length ≤ l.length * n
  | [], _ => by simp [txtL]
  | i :: l, h => by
    have h1 := txtL_len ps n hp l fun j hj => h j (by simp [hj])
    have h2 := hp i.toNat (h i (by simp))
    have h3 : (phAt ps i.toNat).txt.data.toList.length = (phAt ps i.toNat).txt.size := by simp
    simp only [txtL, List.flatMap_cons, List.length_append, List.length_cons] at h1 ⊢
    rw [Nat.succ_mul]
    omega
theorem txtL_take (ps : List Ph) (l : List Int) (k : Nat) (hk : k < l.length) : txtL ps (l.take (k + 1)) = txtL ps (l.take k) ++ (phAt ps (l[k]?.getD 0).toNat).txt.data.toList := by
  rw [List.take_succ_eq_append_getElem hk, txtL_snoc]; simp [hk]
theorem txtB_take (ps : List Ph) (l : List Int) (k : Nat) (hk : k < l.length) : txtB ps (l.take (k + 1)) = txtB ps (l.take k) ++ (phAt ps (l[k]?.getD 0).toNat).txt := by
  apply bytes_ext
  simp [txtB, txtL_take ps l k hk]
theorem book_txt {ps : List Ph} (hb : bookB ps = true) {i : Nat} (hi : i < ps.length) : 1 ≤ (phAt ps i).txt.size ∧ (phAt ps i).txt.size ≤ 12 := by
  have h := goodAt_txt (bookB_at hb hi)
  simp only [textB, begB, Bool.and_eq_true, decide_eq_true_eq] at h
  exact ⟨h.2, h.1.1⟩
theorem txtB_size {ps : List Ph} {l : List Int} (hb : bookB ps = true) (hin : ∀ k, k < l.length → 0 ≤ l[k]?.getD 0 ∧ l[k]?.getD 0 < (ps.length : Int)) (hl : l.length ≤ 60) (k : Nat) : (txtB ps (l.take k)).size ≤ 720 := by
  have h := txtL_len ps 12 (fun i hi => (book_txt hb hi).2) (l.take k) (fun i hi => by
    obtain ⟨j, hj, rfl⟩ := List.mem_iff_getElem.1 (List.mem_of_mem_take hi)
    have := hin j hj
    simp [hj] at this
    omega)
  have h2 : (txtB ps (l.take k)).size = (txtL ps (l.take k)).length := by simp [txtB, ByteArray.size]
  have h3 : (l.take k).length ≤ 60 := by simp; omega
  have := Nat.mul_le_mul h3 (Nat.le_refl 12)
  omega
theorem strCells_bytes (s : ByteArray) : Lib.strCells s = Lib.byteCells s.data.toList := rfl

set_option maxHeartbeats 1000000 in
theorem spText_any (v u : Value) (ps : List Ph) (l : List Int) (w : World) (hr : RdPs w v ps) (hu : RdC w u l) (hbk : bookB ps = true) (hin : ∀ k, k < l.length → 0 ≤ l[k]?.getD 0 ∧ l[k]?.getD 0 < (ps.length : Int)) (hl : l.length ≤ 60) :
    Calls Try.prog 65 #[.agg #[v], u] w fun e w' => e = .returned (.string (txtB ps l)) ∧ Below w.heap.size w w' := by
  obtain ⟨a, cap, rfl, -⟩ := hr.len
  obtain ⟨-, au, cu, rfl, hcu⟩ := id hu
  obtain ⟨n, hn⟩ : ∃ n, n = l.length := ⟨_, rfl⟩
  obtain ⟨np, hnp⟩ : ∃ np, np = ps.length := ⟨_, rfl⟩
  have HN := Lib.hid hn
  have HNP := Lib.hid hnp
  have HIN := Lib.hid hin
  have HSZ := Lib.hid (txtB_size hbk hin hl)
  have HTX : Hid (∀ i, i < ps.length → (phAt ps i).txt.size ≤ 12) := Lib.hid fun i hi => (book_txt hbk hi).2
  have hb0 := (Below.refl w.heap.size w).alloc (Nat.le_refl _) (.cells #[.slice a ps.length cap] 31)
  have HR := Lib.hid (hr.later hb0)
  have HU := Lib.hid (hu.later hb0)
  have hx0 : (w.alloc (.cells #[.slice a ps.length cap] 31)).cell? ⟨w.heap.size, 0, none⟩ = some (.slice a ps.length cap) := by simp [go_sem]
  rw [← hn] at hcu hl HU ⊢
  rw [← hnp] at hb0 hx0 HR HU ⊢
  clear hn hnp hr hu hin hbk
  go_enter Try.func65, Try.ntmps65
  go_wp2
  generalize w.alloc (.cells #[.slice a np cap] 31) = W at *
  go_loopw [5, 10] (fun sv i wr => ∃ k : Nat, k ≤ n ∧ i = .int .i64 k ∧ sv = .string (txtB ps (l.take k)) ∧ wr = W) (fun _ i _ => n - (intOf i).toNat)
  case atStart => exact ⟨0, Nat.zero_le _, rfl, rfl, rfl⟩
  case round =>
    obtain ⟨k, hk, rfl, rfl, rfl⟩ := hrel
    by_cases hlt : k < n
    · obtain ⟨gu, ou, rfl, hgu, hcz⟩ := HU.out.rd.at_ HN.out k hlt
      obtain ⟨h1, h2⟩ := HIN.out k (by rw [← HN.out]; exact hlt)
      obtain ⟨z, hz⟩ : ∃ z, z = l[k]?.getD 0 := ⟨_, rfl⟩
      have HZ := Lib.hid hz
      rw [← hz] at h1 h2 hcz
      rw [← HNP.out] at h2
      obtain ⟨i, rfl⟩ : ∃ i : Nat, z = i := ⟨z.toNat, by omega⟩
      obtain ⟨g, off, us, rfl, hg, hts, hd0, hd1, hru⟩ := HR.out.at_ HNP.out i (by omega)
      have HST : Hid (txtB ps (l.take (k + 1)) = txtB ps (l.take k) ++ (phAt ps i).txt) := Lib.hid (by rw [txtB_take ps l k (by rw [← HN.out]; exact hlt), ← HZ.out]; rfl)
      have hs1 := HSZ.out k
      have hs2 := HTX.out i (by rw [← HNP.out]; omega)
      generalize txtB ps (l.take k) = S at *
      generalize (phAt ps i).txt = T at *
      clear hz
      have hss : S.size + T.size ≤ 732 := by omega
      go_wp2
      go_roundw
      case rel => exact ⟨k + 1, by omega, by go_num, by rw [HST.out], by first | rfl | trivial⟩
      case measure => simp [intOf]; omega
    · obtain rfl : k = n := by omega
      have HE : Hid (l.take k = l) := Lib.hid (by rw [HN.out, List.take_length])
      rw [HE.out]
      go_wp2
      go_ret
      exact ⟨rfl, hb0⟩

set_option maxRecDepth 100000 in
set_option maxHeartbeats 1000000 in
theorem joinedTexts_any (v u : Value) (ps : List Ph) (l : List Int) (w : World) (hr : RdPs w v ps) (hu : RdC w u l) (hbk : bookB ps = true) (hin : ∀ k, k < l.length → 0 ≤ l[k]?.getD 0 ∧ l[k]?.getD 0 < (ps.length : Int)) (hl : l.length ≤ 60) :
    Calls Try.prog 66 #[.agg #[v], u] w fun e w' => e = .returned (.string (txtB ps l)) ∧ Below w.heap.size w w' := by
  obtain ⟨a, cap, rfl, -⟩ := hr.len
  obtain ⟨-, au, cu, rfl, hcu⟩ := id hu
  obtain ⟨n, hn⟩ : ∃ n, n = l.length := ⟨_, rfl⟩
  obtain ⟨np, hnp⟩ : ∃ np, np = ps.length := ⟨_, rfl⟩
  have HN := Lib.hid hn
  have HNP := Lib.hid hnp
  have HIN := Lib.hid hin
  have HSZ := Lib.hid (txtB_size hbk hin hl)
  have HTX : Hid (∀ i, i < ps.length → (phAt ps i).txt.size ≤ 12) := Lib.hid fun i hi => (book_txt hbk hi).2
  have hb0 := (Below.refl w.heap.size w).alloc (Nat.le_refl _) (.cells #[.slice a ps.length cap] 31)
  have HR := Lib.hid (hr.later hb0)
  have HU := Lib.hid (hu.later hb0)
  have hx0 : (w.alloc (.cells #[.slice a ps.length cap] 31)).cell? ⟨w.heap.size, 0, none⟩ = some (.slice a ps.length cap) := by simp [go_sem]
  have hsz0 : w.heap.size < (w.alloc (.cells #[.slice a ps.length cap] 31)).heap.size := by simp
  rw [← hn] at hcu hl HU ⊢
  rw [← hnp] at hb0 hx0 HR HU hsz0 ⊢
  clear hn hnp hr hu hin hbk
  have HWS : Hid (w.heap.size + 1 = (w.alloc (.cells #[.slice a np cap] 31)).heap.size) := Lib.hid (by simp)
  go_enter Try.func66, Try.ntmps66
  go_wp2
  generalize w.alloc (.cells #[.slice a np cap] 31) = W at *
  go_loopw [10] (fun i wr => ∃ k : Nat, k ≤ n ∧ i = .int .i64 k ∧ Bld wr W.heap.size (w.heap.size + 1) (Lib.byteCells (txtL ps (l.take k))) ∧ Below W.heap.size W wr) (fun i _ => n - (intOf i).toNat)
  case atStart => exact ⟨0, Nat.zero_le _, rfl, by rw [HWS.out]; exact Lib.IsBuilderF.of (Lib.fresh_isBuilder _ _ W), (Below.refl _ _).alloc (Nat.le_refl _) _⟩
  case round =>
    obtain ⟨k, hk, rfl, hbld, hbl⟩ := hrel
    have hszl := hbl.size
    by_cases hlt : k < n
    · obtain ⟨gu, ou, hau, hgu, hcz⟩ := (HU.out.below hbl (Nat.le_refl _)).rd.at_ HN.out k hlt
      subst hau
      obtain ⟨h1, h2⟩ := HIN.out k (by rw [← HN.out]; exact hlt)
      obtain ⟨z, hz⟩ : ∃ z, z = l[k]?.getD 0 := ⟨_, rfl⟩
      have HZ := Lib.hid hz
      rw [← hz] at h1 h2 hcz
      rw [← HNP.out] at h2
      obtain ⟨i, rfl⟩ : ∃ i : Nat, z = i := ⟨z.toNat, by omega⟩
      obtain ⟨g, off, us, hag, hg, hts, hd0, hd1, hru⟩ := (HR.out.below hbl (Nat.le_refl _)).at_ HNP.out i (by omega)
      subst hag
      have HST : Hid (Lib.byteCells (txtL ps (l.take (k + 1))) = Lib.byteCells (txtL ps (l.take k)) ++ Lib.strCells (phAt ps i).txt) := Lib.hid (by
        rw [txtL_take ps l k (by rw [← HN.out]; exact hlt), ← HZ.out, Lib.byteCells_append]; rfl)
      have hs1 := HSZ.out k
      have hs2 := HTX.out i (by rw [← HNP.out]; omega)
      have hlen : (Lib.byteCells (txtL ps (l.take k))).length ≤ 720 := by rw [Lib.byteCells_length]; simpa [txtB, ByteArray.size] using hs1
      have hxw := hx0 ▸ hbl.cell (p := ⟨w.heap.size, 0, none⟩) hsz0
      generalize (phAt ps i).txt = T at *
      clear hz
      go_wp2_with (go_at_call 92; refine (WriteString_any W.heap.size (w.heap.size + 1) _ T _ hbld (by omega) hszl).mono ?_; rintro e w2 ⟨rfl, hbld2, hb2⟩)
      go_roundw
      case rel => exact ⟨k + 1, by omega, by go_num, by rw [HST.out]; exact hbld2, hbl.trans hb2⟩
      case measure => simp [intOf]; omega
    · obtain rfl : k = n := by omega
      have HE : Hid (l.take k = l) := Lib.hid (by rw [HN.out, List.take_length])
      rw [HE.out] at hbld
      go_wp2_with (go_at_call 93; refine (Try.Builder_String_any_k W.heap.size (w.heap.size + 1) (txtL ps l) _ hbld hszl).mono ?_; rintro e w2 ⟨rfl, _, hb2, _⟩)
      go_ret
      exact ⟨rfl, hb0.trans ((hbl.trans hb2).mono hb0.size)⟩
end Go.Proofs.Ytpogpehbkgjiaaa
