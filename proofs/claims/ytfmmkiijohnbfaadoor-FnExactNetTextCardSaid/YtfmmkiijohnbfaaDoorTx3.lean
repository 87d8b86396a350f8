/- Texts: numbers written with a byte between them, by the program; SignalsText. -/
import Derived.Test.YtfmmkiijohnbfaaDoorJc
import Derived.WalkSmall
namespace Go.Proofs.YtfmmkiijohnbfaaDoor
open Go.RowKit
set_option linter.unusedSimpArgs false
set_option linter.unusedVariables false

theorem Tryd_info_string : (Tryd.prog.info? 9).map (fun i => (i.zero, i.size, i.bytes)) = some (some (.string ⟨#[]⟩), 1, 16) := by kernel_rfl
/-- v owns, among the blocks from B on, the strings xs. -/
def OwnT (w : World) (B : Nat) (v : Value) (xs : List ByteArray) : Prop := w.ownsRow B 9 1 v xs.length (xs.map Value.string)
theorem OwnT.cells {w : World} {B g n cap : Nat} {xs : List ByteArray} (h : OwnT w B (.slice (some ⟨g, 0, none⟩) n cap) xs) (j : Nat) (x : ByteArray) (hx : xs[j]? = some x) : w.cell? ⟨g, j, none⟩ = some (.string x) := by
  obtain ⟨hj, rfl⟩ := List.getElem?_eq_some_iff.1 hx
  have hn : n = xs.length := by
    rcases h.2 with ⟨h2, -⟩ | ⟨g', cap', cur, hv, -⟩
    · cases h2
    · simp only [Value.slice.injEq] at hv; exact hv.2.1
  subst hn
  unfold OwnT at h
  rw [h.cellAt j (by omega)]
  simp [hj]
def wdT (zs : List Int) (n k : Nat) : List ByteArray := ((zs.take k).map fun z => decS z.toNat) ++ List.replicate (n - k) ⟨#[]⟩
theorem wdT_len {zs : List Int} {n k : Nat} (hn : n = zs.length) (hk : k ≤ n) : (wdT zs n k).length = n := by simp [wdT]; omega
theorem wdT_step {zs : List Int} {n k : Nat} (hn : n = zs.length) (hk : k < n) : (wdT zs n k).set k (decS (zs[k]?.getD 0).toNat) = wdT zs n (k + 1) := by
  have e : List.replicate (n - k) (⟨#[]⟩ : ByteArray) = ⟨#[]⟩ :: List.replicate (n - (k + 1)) ⟨#[]⟩ := by
    rw [show n - k = (n - (k + 1)) + 1 by omega, List.replicate_succ]
  unfold wdT
  rw [e, List.set_append_right _ _ (by simp; omega)]
  have hk0 : k - ((zs.take k).map fun z => decS z.toNat).length = 0 := by simp; omega
  rw [hk0, List.take_succ_eq_append_getElem (by omega : k < zs.length)]
  have hk' : k < zs.length := by omega
  simp only [List.map_append, List.map_cons, List.set_cons_zero, List.append_assoc, List.cons_append, List.nil_append, List.map_nil]
  simp [hk']
theorem wdT_all {zs : List Int} {n : Nat} (hn : n = zs.length) : wdT zs n n = zs.map fun z => decS z.toNat := by
  unfold wdT; rw [Nat.sub_self, hn]; simp
theorem jnT_line (b : UInt8) (zs : List Int) (k : Nat) (hk : k ≤ zs.length) : jnT b (zs.map fun z => decS z.toNat) k = lineTo b zs k := by
  induction k with
  | zero => rfl
  | succ k ih =>
    have hk' : k < zs.length := by omega
    simp only [jnT, lineTo, ih (by omega)]
    congr 2
    simp [hk', decS_data]
theorem catL_dec {zs : List Int} (h : ∀ i, i < zs.length → 0 ≤ zs[i]?.getD 0 ∧ zs[i]?.getD 0 ≤ 99) : (catL (zs.map fun z => decS z.toNat)).length ≤ 2 * zs.length := by
  induction zs with
  | nil => simp [catL]
  | cons z zs ih =>
    have h0 := h 0 (by simp)
    simp only [List.getElem?_cons_zero, Option.getD_some] at h0
    have h1 := ih fun i hi => by have := h (i + 1) (by simp; omega); simpa using this
    have h2 : (dec z.toNat).length ≤ 2 := dec_len (k := 2) (by omega) (by decide)
    simp only [List.map_cons, catL, List.flatMap_cons, List.length_append, List.length_cons] at h1 ⊢
    rw [decS_data]
    omega

set_option maxRecDepth 100000 in
set_option maxHeartbeats 800000 in
theorem writeNumbers_any (v : Value) (zs : List Int) (b : UInt8) (w : World) (hr : Rd w v zs) (hl : zs.length ≤ 1000) (hz : ∀ i, i < zs.length → 0 ≤ zs[i]?.getD 0 ∧ zs[i]?.getD 0 ≤ 99) :
    Calls Tryd.prog 24 #[v, .string ⟨#[b]⟩] w fun e w' => e = .returned (.string (lineS b zs zs.length)) ∧ Below w.heap.size w w' := by
  obtain ⟨i0, hi, hz0, hz1, hz2⟩ := info_parts Tryd_info_string
  obtain ⟨a, cap, hv⟩ := hr.len
  have HEND : Hid (jnT b (zs.map fun z => decS z.toNat) zs.length = lineTo b zs zs.length) := Lib.hid (jnT_line b zs _ (Nat.le_refl _))
  have HCAT := Lib.hid (catL_dec hz)
  obtain ⟨n, hn⟩ : ∃ n, n = zs.length := ⟨_, rfl⟩
  rw [← hn] at hv hl ⊢
  have HN := Lib.hid hn
  have HR := Lib.hid hr
  have HZ := Lib.hid hz
  clear hr hn hz
  subst hv
  go_enter Tryd.func24, Tryd.ntmps24
  go_wp2_with (refine wpList_make_full _ rfl _ _ 65 rfl w.heap.size 9 i0 (.string ⟨#[]⟩) 1 Tryd.underlying65 hi hz0 hz1 .i64 .i64 _ _ n rfl rfl rfl rfl (by rw [hz2]; omega) (by unfold maxLen; omega) (Nat.le_refl _) ?_; intro w1 hown1 hgrow1)
  have ho0 : OwnT w1 w.heap.size (.slice (some ⟨w.heap.size, 0, none⟩) n n) (wdT zs n 0) := by
    unfold OwnT
    rw [wdT_len HN.out (Nat.zero_le _)]
    have e : (madeCells (Value.string ⟨#[]⟩).cells (n * 1)).toList = (wdT zs n 0).map Value.string := by
      rw [Nat.mul_one]
      have := toList_madeCells_one (.string ⟨#[]⟩) n
      simpa [Value.cells, wdT] using this
    rw [← e]; exact hown1
  have hb0 : Below w.heap.size w w1 := (Below.refl _ _).grown hgrow1 (Nat.le_refl _) (fun k h => by cases h)
  have hs0 : w.heap.size < w1.heap.size := by
    rcases ho0.2 with ⟨h, -⟩ | ⟨g, cap', cur, hv, hg, hh, -⟩
    · cases h
    · simp only [Value.slice.injEq, Option.some.injEq, Addr.mk.injEq, and_true] at hv
      rw [hv.1]; exact (Array.getElem?_eq_some_iff.1 hh).1
  clear hown1 hgrow1
  go_loopw [13] (fun i wr => ∃ k : Nat, k ≤ n ∧ i = .int .i64 k ∧ OwnT wr w.heap.size (.slice (some ⟨w.heap.size, 0, none⟩) n n) (wdT zs n k) ∧ Below w.heap.size w wr ∧ w.heap.size < wr.heap.size) (fun i wr => n - (intOf i).toNat)
  case atStart => exact ⟨0, Nat.zero_le _, rfl, ho0, hb0, hs0⟩
  case round =>
    obtain ⟨k, hk, rfl, hown, hbl, hsz⟩ := hrel
    by_cases hlt : k < n
    · obtain ⟨g, off, ea, hg, q⟩ := (HR.out.below hbl (Nat.le_refl _)).at_ HN.out k hlt
      subst ea
      obtain ⟨b0, b1⟩ := HZ.out k (by rw [← HN.out]; exact hlt)
      obtain ⟨x, hx⟩ : ∃ x : Nat, zs[k]?.getD 0 = (x : Int) := ⟨(zs[k]?.getD 0).toNat, by omega⟩
      have hxt : (zs[k]?.getD 0).toNat = x := by omega
      have hst0 := wdT_step HN.out hlt
      rw [hxt] at hst0
      rw [hx] at q b0 b1
      have hl0 := wdT_len HN.out hk
      have hown' : wr.ownsRow w.heap.size 9 1 (.slice (some ⟨w.heap.size, 0, none⟩) n n) n ((wdT zs n k).map Value.string) := by
        unfold OwnT at hown; rw [hl0] at hown; exact hown
      have hst := World.ownsRow.stored (g := w.heap.size) (n := n) (cap := n) hown' k (.string (decS x))
      have hfz : wr.frozen? ⟨w.heap.size, k, none⟩ = false := World.ownsRow.frozenAt hown' k
      obtain ⟨u, hcell⟩ : ∃ u, wr.cell? ⟨w.heap.size, k, none⟩ = some u := by
        rw [World.ownsRow.cellAt hown' k (by omega)]
        exact ⟨_, List.getElem?_eq_getElem (by simp only [List.length_map]; rw [hl0]; exact hlt)⟩
      rw [← List.map_set, hst0] at hst
      have hl1 := wdT_len HN.out (show k + 1 ≤ n by omega)
      have HST := Lib.hid hst
      have HL := Lib.hid hl1
      have hx100 : x < 100 := by omega
      clear hst hl0 hl1 hown hown' hst0 hx hxt b0 b1
      go_wp2_with (go_at_call 45; refine (Tryd.strconv_Itoa_small x hx100 _).mono ?_; rintro e w' ⟨rfl, rfl⟩)
      go_roundw
      case rel => exact ⟨k + 1, by omega, by go_num, by unfold OwnT; rw [HL.out]; exact HST.out.1, hbl.setCell (Nat.le_refl _) _, by simpa using hsz⟩
      case measure => simp [intOf]; omega
    · obtain rfl : k = n := by omega
      have hx := hown
      rw [wdT_all HN.out] at hx
      have hxl : (zs.map fun z => decS z.toNat).length = k := by simp; exact HN.out.symm
      have HC : Hid (∀ (j : Nat) x, (zs.map fun z => decS z.toNat)[j]? = some x → wr.cell? ⟨w.heap.size, j, none⟩ = some (.string x)) := Lib.hid fun j x h => hx.cells j x h
      have HL := Lib.hid hxl
      clear hx hown hxl
      go_wp2_with fail
      have hj := JoinS_any b w.heap.size k (zs.map fun z => decS z.toNat) wr HC.out hsz (by rw [HL.out]; omega) (by rw [HL.out]; exact Nat.le_refl _) (by have := HCAT.out; have := HN.out; rw [HL.out]; omega)
      rw [HL.out] at hj
      refine hj.mono ?_
      rintro e w2 ⟨rfl, hb2⟩
      have HE : Hid (jnT b (zs.map fun z => decS z.toNat) k = lineTo b zs k) := Lib.hid (by have := HEND.out; rw [← HN.out] at this; exact this)
      rw [HE.out]
      go_wp2
      go_ret
      exact ⟨rfl, hbl.trans (hb2.mono hbl.size)⟩

theorem lsB_get {zs : List Int} (h : lsB zs = true) (i : Nat) (hi : i < zs.length) : 0 ≤ zs[i]?.getD 0 ∧ zs[i]?.getD 0 ≤ 63 := by
  simp only [lsB, Bool.and_eq_true] at h; exact allIn_get h.2 i hi
end Go.Proofs.YtfmmkiijohnbfaaDoor
