/- Texts of nets, by the program. Written by a generator of this claim's author. -/
import Derived.Test.YtfmmkiijohnbfaaDoorNt4
import Derived.Test.YtfmmkiijohnbfaaDoorBu2
import Derived.Test.YtfmmkiijohnbfaaDoorNe4
import Derived.Deep.RegionHeld3
namespace Go.Proofs.YtfmmkiijohnbfaaDoor
open Go.RowKit
set_option linter.unusedSimpArgs false
set_option linter.unusedVariables false

theorem strCells_data (s : ByteArray) : Lib.strCells s = Lib.byteCells s.data.toList := rfl
theorem data_app (a b : ByteArray) : (a ++ b).data.toList = a.data.toList ++ b.data.toList := by simp
theorem OwnD.far {w w' : World} {b C B : Nat} {v : Value} {l : List (Bool × T3)} (h : OwnD w B v l) (hC : w.heap.size ≤ C) (hb : b < B) (hf : ∀ k, k < C → k ≠ b → w'.heap[k]? = w.heap[k]?) : OwnD w' B v l :=
  row_at h fun g hg => hf g (Nat.lt_of_lt_of_le (h.lt g hg).2 hC) (by have := (h.lt g hg).1; omega)
theorem nd_cell {w : World} {B g n cap : Nat} {l : List (Bool × T3)} (h : OwnD w B (.slice (some ⟨g, 0, none⟩) n cap) l) {k : Nat} (hk : k < l.length) : w.cell? ⟨g, k, none⟩ = some (ndV (rAt l k)) := by
  have := h.cellAt k hk 0 (by decide)
  simpa [cN] using this
/-- A line, in the program's order. -/
theorem ndL_bytes (b : Bool) (x : T3) (S : ByteArray) : Lib.byteCells (S ++ ndL b x).data.toList = Lib.byteCells S.data.toList ++ Lib.strCells ((if b then twW else lkW) ++ ⟨#[32]⟩ ++ num3 x ++ ⟨#[10]⟩) := by
  rw [strCells_data, ← Lib.byteCells_append, data_app]; rfl
set_option maxRecDepth 100000 in
set_option maxHeartbeats 1600000 in
theorem implNetText_any (c0 c1 : Value) (ts ls : List T3) (w : World) (hr : RdN w c0 c1 ts ls) (hT : TabW w) :
    Calls Tryd.prog 8 #[.agg #[c0, c1]] w fun e w' => e = .returned (.tuple #[.string (ntB ts ls), .bool (netB ts ls)]) ∧ Below w.heap.size w w' := by
  obtain ⟨a0, p0, rfl, hc0⟩ := hr.1.len
  obtain ⟨a1, p1, rfl, hc1⟩ := hr.2.len
  have N0 := NB.start hr 32
  have h0 := N0.b0
  have h1 := N0.b1
  have HT := Lib.hid hT
  clear hr hT
  go_enter Tryd.func8, Tryd.ntmps8
  go_wp2_with fail
  refine (isNet_any _ _ ts ls _ N0.rd).mono ?_
  rintro e w1 ⟨rfl, hb1⟩
  have N1 := N0.next hb1
  have h0 := N1.b0
  have h1 := N1.b1
  cases h : netB ts ls with
  | false =>
    go_wp2
    go_ret2
    exact ⟨by rw [ntB_no h, h]; rfl, N1.below⟩
  | true =>
    have ok := netB_iff.1 h
    have hone := ok.one
    have hl16 := ok.t16
    have hl40 := ok.l40
    have HB := Lib.hid h
    obtain ⟨b, hbe⟩ : ∃ b, b = w1.heap.size := ⟨_, rfl⟩
    have hfresh : Bld (w1.alloc (.cells #[.pointer none, .slice none 0 0] 49)) b b (Lib.byteCells (neT ts ls 0).data.toList) := by rw [hbe]; exact Lib.IsBuilderF.of (Lib.fresh_isBuilder _ _ w1)
    have hc1' : (w1.alloc (.cells #[.pointer none, .slice none 0 0] 49)).cell? ⟨b, 1, none⟩ = some (.slice none 0 0) := by rw [hbe]; simp [go_sem]
    have N2 := N1.alloc (.cells #[.pointer none, .slice none 0 0] 49)
    have hbA : Below w1.heap.size w1 (w1.alloc (.cells #[.pointer none, .slice none 0 0] 49)) := (Below.refl _ _).alloc (Nat.le_refl _) _
    have hszA : (w1.alloc (.cells #[.pointer none, .slice none 0 0] 49)).heap.size = b + 1 := by rw [hbe]; simp
    have HNo := Lib.hid (nodesOf_any _ _ ts ls _ N2.rd hl16 hl40)
    have h0 := N2.b0
    have h1 := N2.b1
    clear ok
    go_wp2_with fail
    refine (HNo.out).mono ?_
    rintro e w3 ⟨v, rfl, hown, hb3⟩
    rw [hszA] at hown
    have hb13 : Below b w1 w3 := by rw [hbe]; exact hbA.trans (hb3.mono hbA.size)
    have hC3 : b < w3.heap.size := by have := hb3.size; omega
    have hB3 : BldC w3 b w3.heap.size (Lib.byteCells (neT ts ls 0).data.toList) := by
      refine ⟨hfresh.elim (fun x => .inl (bldAt_later x hb3)) (fun x => .inr (bldAt_later x hb3)), hC3, fun u hu => ?_⟩
      rw [hb3.cell (p := ⟨b, 1, none⟩) (by rw [hszA]; exact Nat.lt_succ_self _), hc1'] at hu
      cases hu
      intro g hg; cases hg
    obtain ⟨N, hN⟩ : ∃ N, N = ts.length + ls.length := ⟨_, rfl⟩
    have HN := Lib.hid hN
    have hN1 : 1 ≤ N ∧ N ≤ 56 := by omega
    rw [← hN] at hown
    obtain ⟨g, cap, rfl, hgb, hg3⟩ := hown.nonnil (N - 1) (by rw [nds_len]; omega)
    have hN11 : N - 1 + 1 = N := by omega
    rw [hN11] at hown ⊢
    have hcell : ∀ k, k < N → w3.cell? ⟨g, k, none⟩ = some (ndV (ndB ts k, ndX ts ls k)) := fun k hk => by
      rw [nd_cell hown (by rw [nds_len]; exact hk), nds_at ts ls hk]
    have HCE : Hid (∀ k, k < N → w3.cell? ⟨g, k, none⟩ = some (ndV (ndB ts k, ndX ts ls k))) := Lib.hid hcell
    have hT3 := Lib.hid (HT.out.below (N0.below.trans ((hb1.mono N0.below.size).trans (hb13.mono (by rw [hbe]; exact N1.below.size)))) (Nat.le_refl _))
    obtain ⟨C, hC⟩ : ∃ C, C = w3.heap.size := ⟨_, rfl⟩
    have hW1 : w.heap.size ≤ b := by rw [hbe]; exact N1.below.size
    have HBL : Hid (Below w.heap.size w w3) := Lib.hid (N1.below.trans (hb13.mono hW1))
    have HTB : Hid (∀ y : World, Below b w1 y → TabW y) := Lib.hid fun y hy => HT.out.below (N1.below.trans (hy.mono hW1)) (Nat.le_refl _)
    have HBY : Hid (∀ y : World, Below b w1 y → Below w.heap.size w y) := Lib.hid fun y hy => N1.below.trans (hy.mono hW1)
    rw [← hC] at hB3 hC3 hg3
    have hCl : C ≤ w3.heap.size := by omega
    clear hown hb3 hcell hfresh hc1' hbA hszA HNo h0 h1 N2 N1 N0 hc0 hc1 hN
    clear hC
    rw [← hbe]
    clear hbe
    go_wp2
    go_loopw [13] (fun i wr => ∃ k : Nat, k ≤ N ∧ i = .int .i64 k ∧ BldC wr b C (Lib.byteCells (neT ts ls k).data.toList) ∧ Below b w1 wr ∧ C ≤ wr.heap.size ∧ ∀ j, j < C → j ≠ b → wr.heap[j]? = w3.heap[j]?) (fun i wr => N - (intOf i).toNat)
    case atStart => exact ⟨0, Nat.zero_le _, rfl, hB3, hb13, hCl, fun _ _ _ => rfl⟩
    case round =>
      obtain ⟨k, hk, rfl, hbld, hbl, hCr, hfr⟩ := hrel
      by_cases hlt : k < N
      · have hnd : wr.cell? ⟨g, k, none⟩ = some (ndV (ndB ts k, ndX ts ls k)) := by
          rw [World.cell?_of_block (a := ⟨g, k, none⟩) (hfr g hg3 (by omega))]; exact HCE.out k hlt
        have hx := nd_small HB.out (k := k) (by have := HN.out; omega)
        have hst := Lib.hid (ndL_bytes (ndB ts k) (ndX ts ls k) (neT ts ls k))
        have hst2 : Hid (neT ts ls (k + 1) = neT ts ls k ++ ndL (ndB ts k) (ndX ts ls k)) := Lib.hid rfl
        have hbs := neT_size HB.out k (by have := HN.out; omega)
        have hbll : (Lib.byteCells (neT ts ls k).data.toList).length ≤ 2000 := by rw [Lib.byteCells_length]; have : k * 19 ≤ 56 * 19 := Nat.mul_le_mul_right _ (by omega); simp; omega
        generalize Lib.byteCells (neT ts ls k).data.toList = bs at *
        generalize ndX ts ls k = x at *
        have hns := num3_size hx
        obtain ⟨LL, hLL⟩ : ∃ LL, LL = num3 x := ⟨_, rfl⟩
        have HWN : Hid (∀ (X : World) (u : Value), Rd X u (l3 x) → TabW X → Calls Tryd.prog 24 #[u, .string ⟨#[32]⟩] X fun e w' => e = .returned (.string LL) ∧ Below X.heap.size X w') := Lib.hid fun X u hu hX => by rw [hLL]; exact writeThree x hx X u hu hX
        rw [← hLL] at hst hns
        clear hLL hx
        cases hb : ndB ts k with
        | false =>
          rw [hb] at hnd hst hst2
          replace hnd : wr.cell? ⟨g, k, none⟩ = some (.iface 71 (agT x)) := hnd
          replace hst : Hid (Lib.byteCells (neT ts ls k ++ ndL false x).data.toList = bs ++ Lib.strCells (lkW ++ ⟨#[32]⟩ ++ LL ++ ⟨#[10]⟩)) := hst
          obtain ⟨W, hW⟩ : ∃ W, W = lkW := ⟨_, rfl⟩
          have hWs : W.size ≤ 5 := by rw [hW]; decide
          rw [← hW] at hst
          have HW := Lib.hid hW
          have h32 : (⟨#[32]⟩ : ByteArray).size = 1 := rfl
          have h10 : (⟨#[10]⟩ : ByteArray).size = 1 := rfl
          have hq4 : bs.length + (W ++ ⟨#[32]⟩ ++ LL ++ ⟨#[10]⟩).size ≤ 140737488355328 := by rw [ByteArray.size_append, ByteArray.size_append, ByteArray.size_append]; omega
          have hq1 : ¬ 9223372036854775807 < W.size + (⟨#[32]⟩ : ByteArray).size := by omega
          have hq2 : ¬ 9223372036854775807 < (W ++ ⟨#[32]⟩).size + LL.size := by rw [ByteArray.size_append]; omega
          have hq3 : ¬ 9223372036854775807 < (W ++ ⟨#[32]⟩ ++ LL).size + (⟨#[10]⟩ : ByteArray).size := by rw [ByteArray.size_append, ByteArray.size_append]; omega
          have hq1' : ¬ 9223372036854775807 < W.size + 1 := by omega
          have hq2' : ¬ 9223372036854775807 < W.size + 1 + LL.size := by omega
          have hq3' : ¬ 9223372036854775807 < W.size + 1 + LL.size + 1 := by omega
          have HWO : Hid (Calls Tryd.prog 23 #[.iface 71 (agT x)] wr fun e w' => e = .returned (.string W) ∧ wr = w') := Lib.hid (by rw [HW.out]; exact wordOf_lnk _ _)
          clear hW hb h32 h10
          have iv := iv_lnk (agT x)
          go_wp2_with fail
          refine (HWO.out).mono ?_
          rintro e w' ⟨rfl, rfl⟩
          go_wp2_with fail
          refine (numL_any x wr).mono ?_
          rintro e wa ⟨u, rfl, hru, hba⟩
          have hsa := hba.size
          have hbla : Below b w1 wa := hbl.trans (hba.mono (by omega))
          go_wp2_with fail
          refine (HWN.out _ _ hru (HTB.out _ hbla)).mono ?_
          rintro e wb ⟨rfl, hbb⟩
          have hsb := hbb.size
          have hblb : Below b w1 wb := hbla.trans (hbb.mono (by omega))
          have hab : Below wr.heap.size wr wb := hba.trans (hbb.mono hsa)
          have hbldb := hbld.later hab
          go_wp2_with fail
          refine (WriteString_far b C bs _ wb hbldb hq4 (by omega)).mono ?_
          rintro e wc ⟨rfl, hbldc, hfc⟩
          have hsc := hfc.size
          rw [← hst.out, ← hst2.out] at hbldc
          have hblc := hblb.trans hfc.1
          have hfrc : ∀ j, j < C → j ≠ b → wc.heap[j]? = w3.heap[j]? := fun j hj hn => (hfc.2 j hj hn).trans ((hab.block j (by omega)).trans (hfr j hj hn))
          go_wp2
          go_roundw
          case rel => exact ⟨k + 1, by omega, by go_num, hbldc, hblc, by omega, hfrc⟩
          case measure => simp [intOf]; omega
        | true =>
          rw [hb] at hnd hst hst2
          replace hnd : wr.cell? ⟨g, k, none⟩ = some (.iface 69 (agT x)) := hnd
          replace hst : Hid (Lib.byteCells (neT ts ls k ++ ndL true x).data.toList = bs ++ Lib.strCells (twW ++ ⟨#[32]⟩ ++ LL ++ ⟨#[10]⟩)) := hst
          obtain ⟨W, hW⟩ : ∃ W, W = twW := ⟨_, rfl⟩
          have hWs : W.size ≤ 5 := by rw [hW]; decide
          rw [← hW] at hst
          have HW := Lib.hid hW
          have h32 : (⟨#[32]⟩ : ByteArray).size = 1 := rfl
          have h10 : (⟨#[10]⟩ : ByteArray).size = 1 := rfl
          have hq4 : bs.length + (W ++ ⟨#[32]⟩ ++ LL ++ ⟨#[10]⟩).size ≤ 140737488355328 := by rw [ByteArray.size_append, ByteArray.size_append, ByteArray.size_append]; omega
          have hq1 : ¬ 9223372036854775807 < W.size + (⟨#[32]⟩ : ByteArray).size := by omega
          have hq2 : ¬ 9223372036854775807 < (W ++ ⟨#[32]⟩).size + LL.size := by rw [ByteArray.size_append]; omega
          have hq3 : ¬ 9223372036854775807 < (W ++ ⟨#[32]⟩ ++ LL).size + (⟨#[10]⟩ : ByteArray).size := by rw [ByteArray.size_append, ByteArray.size_append]; omega
          have hq1' : ¬ 9223372036854775807 < W.size + 1 := by omega
          have hq2' : ¬ 9223372036854775807 < W.size + 1 + LL.size := by omega
          have hq3' : ¬ 9223372036854775807 < W.size + 1 + LL.size + 1 := by omega
          have HWO : Hid (Calls Tryd.prog 23 #[.iface 69 (agT x)] wr fun e w' => e = .returned (.string W) ∧ wr = w') := Lib.hid (by rw [HW.out]; exact wordOf_tow _ _)
          clear hW hb h32 h10
          have iv := iv_tow (agT x)
          go_wp2_with fail
          refine (HWO.out).mono ?_
          rintro e w' ⟨rfl, rfl⟩
          go_wp2_with fail
          refine (numT_any x wr).mono ?_
          rintro e wa ⟨u, rfl, hru, hba⟩
          have hsa := hba.size
          have hbla : Below b w1 wa := hbl.trans (hba.mono (by omega))
          go_wp2_with fail
          refine (HWN.out _ _ hru (HTB.out _ hbla)).mono ?_
          rintro e wb ⟨rfl, hbb⟩
          have hsb := hbb.size
          have hblb : Below b w1 wb := hbla.trans (hbb.mono (by omega))
          have hab : Below wr.heap.size wr wb := hba.trans (hbb.mono hsa)
          have hbldb := hbld.later hab
          go_wp2_with fail
          refine (WriteString_far b C bs _ wb hbldb hq4 (by omega)).mono ?_
          rintro e wc ⟨rfl, hbldc, hfc⟩
          have hsc := hfc.size
          rw [← hst.out, ← hst2.out] at hbldc
          have hblc := hblb.trans hfc.1
          have hfrc : ∀ j, j < C → j ≠ b → wc.heap[j]? = w3.heap[j]? := fun j hj hn => (hfc.2 j hj hn).trans ((hab.block j (by omega)).trans (hfr j hj hn))
          go_wp2
          go_roundw
          case rel => exact ⟨k + 1, by omega, by go_num, hbldc, hblc, by omega, hfrc⟩
          case measure => simp [intOf]; omega
      · obtain rfl : N = k := by omega
        go_wp2_with (go_at_call 25; refine (Tryd.Builder_String_any_k b b (neT ts ls N).data.toList _ hbld.1 (by omega)).mono ?_; rintro e w5 ⟨rfl, _, hb5, _⟩)
        go_ret2
        exact ⟨by rw [ntB_yes HB.out, HB.out, ← HN.out]; exact congrArg (fun t => Ending.returned (.tuple #[.string t, .bool true])) (Lib.mk_data (neT ts ls N)), HBY.out _ (hbl.trans hb5)⟩
end Go.Proofs.YtfmmkiijohnbfaaDoor
