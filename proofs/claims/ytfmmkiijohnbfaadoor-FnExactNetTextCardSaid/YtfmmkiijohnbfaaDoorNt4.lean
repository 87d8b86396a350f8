/- Texts of nets: what a node's word and numbers are; numbers up to 999 written by the program. -/
import Derived.Test.YtfmmkiijohnbfaaDoorNt3
import Derived.Test.YtfmmkiijohnbfaaDoorTx3
import Derived.Lib.LaidTab
import Derived.Lib.AppendIntMem
import Derived.Lib.SmallJoins
import Derived.WideLaws
namespace Go.Proofs.YtfmmkiijohnbfaaDoor
open Go.RowKit
set_option linter.unusedSimpArgs false
set_option linter.unusedVariables false

/-- The library's table of powers of ten lies there. -/
def TabW (w : World) : Prop := Lib.TabIs Tryd.prog w "internal/strconv.uint64pow10" .u64 Lib.pow10Tab
theorem g_pow : Tryd.prog.globalNamed "internal/strconv.uint64pow10" = some 1 := by kernel_rfl
theorem TabW.below {w w' : World} {C : Nat} (h : TabW w) (hb : Below C w w') (hC : w.heap.size ≤ C) : TabW w' := by
  have h4 := h
  unfold TabW Lib.TabIs World.var? at h4 ⊢
  simp only [g_pow, Option.bind_some] at h4 ⊢
  have hlt : 1 < w.heap.size := by
    cases hh : w.heap[1]? with
    | none => rw [hh] at h4; simp at h4
    | some o => exact (Array.getElem?_eq_some_iff.1 hh).1
  rw [hb.block _ (Nat.lt_of_lt_of_le hlt hC)]
  exact h4
theorem TabW.later {w w' : World} (h : TabW w) (hb : Below w.heap.size w w') : TabW w' := h.below hb (Nat.le_refl _)

theorem as_tow (v : Value) (w : World) : (Instr.typeAssert (.iface 69 v) 53 69 true).run Tryd.prog w = .ok (.tuple #[v, .bool true]) w := by kernel_rfl
theorem as_lnk (v : Value) (w : World) : (Instr.typeAssert (.iface 71 v) 53 69 true).run Tryd.prog w = .ok (.tuple #[.agg #[.int .i64 0, .int .i64 0, .int .i64 0], .bool false]) w := by kernel_rfl
theorem wordOf_tow (v : Value) (w : World) : Calls Tryd.prog 23 #[.iface 69 v] w fun e w' => e = .returned (.string twW) ∧ w = w' := by
  have h := as_tow v w
  go_enter Tryd.func23, Tryd.ntmps23
  go_wp2
  go_ret
  exact ⟨rfl, rfl⟩
theorem wordOf_lnk (v : Value) (w : World) : Calls Tryd.prog 23 #[.iface 71 v] w fun e w' => e = .returned (.string lkW) ∧ w = w' := by
  have h := as_lnk v w
  go_enter Tryd.func23, Tryd.ntmps23
  go_wp2
  go_ret
  exact ⟨rfl, rfl⟩
theorem wordOf_any (p : Bool × T3) (w : World) : Calls Tryd.prog 23 #[ndV p] w fun e w' => e = .returned (.string (if p.1 then twW else lkW)) ∧ w = w' := by
  obtain ⟨b, x⟩ := p
  cases b
  · exact wordOf_lnk _ _
  · exact wordOf_tow _ _
theorem numT_any (x : T3) (w : World) : Calls Tryd.prog 125 #[agT x] w fun e w' => ∃ v, e = .returned v ∧ Rd w' v (l3 x) ∧ Below w.heap.size w w' := by
  have hbX := (Below.refl w.heap.size w).alloc (Nat.le_refl _) (.cells #[.int .i64 x.x0, .int .i64 x.x1, .int .i64 x.x2] 69)
  have hbY := hbX.alloc hbX.size (.cells #[.int .i64 x.x0, .int .i64 x.x1, .int .i64 x.x2] 3)
  have hR3 := Lib.hid (Rd_three (w.alloc (.cells #[.int .i64 x.x0, .int .i64 x.x1, .int .i64 x.x2] 69)) x (w.heap.size + 1) (by simp))
  unfold agT
  go_enter Tryd.func125, Tryd.ntmps125
  go_wp2
  go_ret
  exact ⟨_, rfl, hR3.out, hbY⟩
theorem numL_any (x : T3) (w : World) : Calls Tryd.prog 126 #[agT x] w fun e w' => ∃ v, e = .returned v ∧ Rd w' v (l3 x) ∧ Below w.heap.size w w' := by
  have hbX := (Below.refl w.heap.size w).alloc (Nat.le_refl _) (.cells #[.int .i64 x.x0, .int .i64 x.x1, .int .i64 x.x2] 71)
  have hbY := hbX.alloc hbX.size (.cells #[.int .i64 x.x0, .int .i64 x.x1, .int .i64 x.x2] 3)
  have hR3 := Lib.hid (Rd_three (w.alloc (.cells #[.int .i64 x.x0, .int .i64 x.x1, .int .i64 x.x2] 71)) x (w.heap.size + 1) (by simp))
  unfold agT
  go_enter Tryd.func126, Tryd.ntmps126
  go_wp2
  go_ret
  exact ⟨_, rfl, hR3.out, hbY⟩

theorem iv_tow (v : Value) (w : World) : (callMethod (.iface 69 v) "loop.example/g00940/impl.numbers" #[]).run Tryd.prog w = .ok (.enter 125 #[v]) w := by kernel_rfl
theorem iv_lnk (v : Value) (w : World) : (callMethod (.iface 71 v) "loop.example/g00940/impl.numbers" #[]).run Tryd.prog w = .ok (.enter 126 #[v]) w := by kernel_rfl
theorem Itoa_big (x : Nat) (hx : x ≤ 1000000) (w : World) (hT : TabW w) :
    Calls Tryd.prog 45 #[.int .i64 x] w fun e w' => e = .returned (.string (decS x)) ∧ Below w.heap.size w w' := by
  refine (Tryd.strconv_Itoa (x : Int) (by omega) (by omega) w hT).mono ?_
  rintro e w' ⟨rfl, k, os, rfl⟩
  exact ⟨by rw [itoa_nat]; rfl, Lib.below_grow _ _ (Nat.le_refl _) _ _⟩
theorem catL_dec3 {zs : List Int} (h : ∀ i, i < zs.length → 0 ≤ zs[i]?.getD 0 ∧ zs[i]?.getD 0 ≤ 999) : (catL (zs.map fun z => decS z.toNat)).length ≤ 3 * zs.length := by
  induction zs with
  | nil => simp [catL]
  | cons z zs ih =>
    have h0 := h 0 (by simp)
    simp only [List.getElem?_cons_zero, Option.getD_some] at h0
    have h1 := ih fun i hi => by have := h (i + 1) (by simp; omega); simpa using this
    have h2 : (dec z.toNat).length ≤ 3 := dec_len (k := 3) (by omega) (by decide)
    simp only [List.map_cons, catL, List.flatMap_cons, List.length_append, List.length_cons] at h1 ⊢
    rw [decS_data]
    omega
theorem OwnT.later {w w' : World} {B : Nat} {v : Value} {xs : List ByteArray} (h : OwnT w B v xs) (hb : Below w.heap.size w w') : OwnT w' B v xs := row_at h fun b hk => hb.block b (World.ownsRow.lt h b hk).2

set_option maxRecDepth 100000 in
set_option maxHeartbeats 800000 in
theorem writeNumbers_big (v : Value) (zs : List Int) (b : UInt8) (w : World) (hr : Rd w v zs) (hl : zs.length ≤ 1000) (hz : ∀ i, i < zs.length → 0 ≤ zs[i]?.getD 0 ∧ zs[i]?.getD 0 ≤ 999) (hT : TabW w) :
    Calls Tryd.prog 24 #[v, .string ⟨#[b]⟩] w fun e w' => e = .returned (.string (lineS b zs zs.length)) ∧ Below w.heap.size w w' := by
  obtain ⟨i0, hi, hz0, hz1, hz2⟩ := info_parts Tryd_info_string
  obtain ⟨a, cap, hv⟩ := hr.len
  have HEND : Hid (jnT b (zs.map fun z => decS z.toNat) zs.length = lineTo b zs zs.length) := Lib.hid (jnT_line b zs _ (Nat.le_refl _))
  have HCAT := Lib.hid (catL_dec3 hz)
  obtain ⟨n, hn⟩ : ∃ n, n = zs.length := ⟨_, rfl⟩
  rw [← hn] at hv hl ⊢
  have HN := Lib.hid hn
  have HR := Lib.hid hr
  have HZ := Lib.hid hz
  have HT := Lib.hid hT
  clear hr hn hz hT
  subst hv
  go_enter Tryd.func24, Tryd.ntmps24
  go_wp2_with (refine wpList_make_full _ rfl _ _ 65 rfl w.heap.size 9 i0 (.string ⟨#[]⟩) 1 Tryd.underlying65 hi hz0 hz1 .i64 .i64 _ _ n rfl rfl rfl rfl (by rw [hz2]; omega) (by unfold maxLen; omega) (Nat.le_refl _) ?_; intro w1 hown1 hgrow1)
  have ho0 : OwnT w1 w.heap.size (.slice (some ⟨w.heap.size, 0, none⟩) n n) (wdT zs n 0) := by
    unfold OwnT
    rw [wdT_len HN.out (Nat.zero_le _)]
    have e : (madeCells (Value.string ⟨#[]⟩).cells (n * 1)).toList = (wdT zs n 0).map Value.string := by
      rw [Nat.mul_one]
      have := toList_madeCells_one (.string ⟨#[]⟩) n
      simpa [Value.cells, wdT] using this
    rw [← e]; exact hown1
  have hb0 : Below w.heap.size w w1 := (Below.refl _ _).grown hgrow1 (Nat.le_refl _) (fun k h => by cases h)
  have hs0 : w.heap.size < w1.heap.size := by
    rcases ho0.2 with ⟨h, -⟩ | ⟨g, cap', cur, hv, hg, hh, -⟩
    · cases h
    · simp only [Value.slice.injEq, Option.some.injEq, Addr.mk.injEq, and_true] at hv
      rw [hv.1]; exact (Array.getElem?_eq_some_iff.1 hh).1
  clear hown1 hgrow1
  go_loopw [13] (fun i wr => ∃ k : Nat, k ≤ n ∧ i = .int .i64 k ∧ OwnT wr w.heap.size (.slice (some ⟨w.heap.size, 0, none⟩) n n) (wdT zs n k) ∧ Below w.heap.size w wr ∧ w.heap.size < wr.heap.size) (fun i wr => n - (intOf i).toNat)
  case atStart => exact ⟨0, Nat.zero_le _, rfl, ho0, hb0, hs0⟩
  case round =>
    obtain ⟨k, hk, rfl, hown, hbl, hsz⟩ := hrel
    by_cases hlt : k < n
    · obtain ⟨g, off, ea, hg, q⟩ := (HR.out.below hbl (Nat.le_refl _)).at_ HN.out k hlt
      subst ea
      obtain ⟨b0, b1⟩ := HZ.out k (by rw [← HN.out]; exact hlt)
      obtain ⟨x, hx⟩ : ∃ x : Nat, zs[k]?.getD 0 = (x : Int) := ⟨(zs[k]?.getD 0).toNat, by omega⟩
      have hxt : (zs[k]?.getD 0).toNat = x := by omega
      have hst0 := wdT_step HN.out hlt
      rw [hxt] at hst0
      rw [hx] at q b0 b1
      have hl0 := wdT_len HN.out hk
      have hl1 := wdT_len HN.out (show k + 1 ≤ n by omega)
      have HST : Hid (∀ y : World, Below wr.heap.size wr y → (∃ u, y.cell? ⟨w.heap.size, k, none⟩ = some u) ∧ y.frozen? ⟨w.heap.size, k, none⟩ = false ∧ OwnT (y.setCell ⟨w.heap.size, k, none⟩ (.string (decS x))) w.heap.size (.slice (some ⟨w.heap.size, 0, none⟩) n n) (wdT zs n (k + 1))) := Lib.hid fun y hy => by
        have hoy := hown.later hy
        have hown' : y.ownsRow w.heap.size 9 1 (.slice (some ⟨w.heap.size, 0, none⟩) n n) n ((wdT zs n k).map Value.string) := by
          unfold OwnT at hoy; rw [hl0] at hoy; exact hoy
        have hst := World.ownsRow.stored (g := w.heap.size) (n := n) (cap := n) hown' k (.string (decS x))
        rw [← List.map_set, hst0] at hst
        refine ⟨?_, World.ownsRow.frozenAt hown' k, ?_⟩
        · rw [World.ownsRow.cellAt hown' k (by omega)]
          exact ⟨_, List.getElem?_eq_getElem (by simp only [List.length_map]; rw [hl0]; exact hlt)⟩
        · unfold OwnT; rw [hl1]; exact hst.1
      have hx100 : x ≤ 1000000 := by omega
      have HTr := Lib.hid (HT.out.below hbl (Nat.le_refl _))
      clear hl0 hl1 hown hst0 hx hxt b0 b1
      go_wp2_with fail
      refine (Itoa_big x hx100 _ HTr.out).mono ?_
      rintro e w9 ⟨rfl, hb9⟩
      obtain ⟨⟨u, hcell⟩, hfz, hown9⟩ := HST.out _ hb9
      have HO9 := Lib.hid hown9
      have hbl9 := hbl.trans (hb9.mono hbl.size)
      have hs9 := hb9.size
      clear hown9
      go_wp2
      go_roundw
      case rel => exact ⟨k + 1, by omega, by go_num, HO9.out, hbl9.setCell (Nat.le_refl _) _, by simp; omega⟩
      case measure => simp [intOf]; omega
    · obtain rfl : k = n := by omega
      have hx := hown
      rw [wdT_all HN.out] at hx
      have hxl : (zs.map fun z => decS z.toNat).length = k := by simp; exact HN.out.symm
      have HC : Hid (∀ (j : Nat) x, (zs.map fun z => decS z.toNat)[j]? = some x → wr.cell? ⟨w.heap.size, j, none⟩ = some (.string x)) := Lib.hid fun j x h => hx.cells j x h
      have HL := Lib.hid hxl
      clear hx hown hxl
      go_wp2_with fail
      have hj := JoinS_any b w.heap.size k (zs.map fun z => decS z.toNat) wr HC.out hsz (by rw [HL.out]; omega) (by rw [HL.out]; exact Nat.le_refl _) (by have := HCAT.out; have := HN.out; rw [HL.out]; omega)
      rw [HL.out] at hj
      refine hj.mono ?_
      rintro e w2 ⟨rfl, hb2⟩
      have HE : Hid (jnT b (zs.map fun z => decS z.toNat) k = lineTo b zs k) := Lib.hid (by have := HEND.out; rw [← HN.out] at this; exact this)
      rw [HE.out]
      go_wp2
      go_ret
      exact ⟨rfl, hbl.trans (hb2.mono hbl.size)⟩
theorem writeThree (x : T3) (hx : smB x) (w : World) (v : Value) (hr : Rd w v (l3 x)) (hT : TabW w) :
    Calls Tryd.prog 24 #[v, .string ⟨#[32]⟩] w fun e w' => e = .returned (.string (num3 x)) ∧ Below w.heap.size w w' :=
  writeNumbers_big v (l3 x) 32 w hr (by simp [l3]) (l3_get hx) hT
end Go.Proofs.YtfmmkiijohnbfaaDoor
