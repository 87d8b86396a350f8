/- Texts of books, by the program. -/
import Derived.Test.YtkmdionldaejjaaDoorTb1
import Derived.Deep.RegionHeld3
namespace Go.Proofs.YtkmdionldaejjaaDoor
open Go.RowKit
set_option linter.unusedSimpArgs false
set_option linter.unusedVariables false

theorem strCells_data (s : ByteArray) : Lib.strCells s = Lib.byteCells s.data.toList := rfl
theorem data_app (a b : ByteArray) : (a ++ b).data.toList = a.data.toList ++ b.data.toList := by simp
theorem at_later {w w' : World} {B b : Nat} {p : Value} {bs : List Value} (h : Lib.BuilderAtF 56 5 B b p bs w) (hb : Below w.heap.size w w') : Lib.BuilderAtF 56 5 B b p bs w' := by
  obtain ⟨hB, v, hcell, hown, hne⟩ := h
  have hlt : ∀ {k : Nat} {o : Obj}, w.heap[k]? = some o → w'.heap[k]? = some o := fun hk => by rw [hb.block _ (Array.getElem?_eq_some_iff.1 hk).1]; exact hk
  refine ⟨hB, v, hlt hcell, ⟨hown.1, ?_⟩, hne⟩
  rcases hown.2 with hn | ⟨g, cap, cur, fz, hv, hbg, hg, rest⟩
  · exact .inl hn
  · exact .inr ⟨g, cap, cur, fz, hv, hbg, hlt hg, rest⟩
theorem bld_later {w w' : World} {B b : Nat} {bs : List Value} (h : Bld w B b bs) (hb : Below w.heap.size w w') : Bld w' B b bs := h.elim (fun x => .inl (at_later x hb)) (fun x => .inr (at_later x hb))
set_option maxRecDepth 100000 in
set_option maxHeartbeats 1600000 in
theorem implBookText_any (v : Value) (ps : List Ph) (w : World) (hr : RdPs w v ps) :
    Calls Tryd.prog 18 #[.agg #[v]] w fun e w' => e = .returned (.tuple #[.string (btB ps), .bool (bookB ps)]) ∧ Below w.heap.size w w' := by
  obtain ⟨a, cap, rfl, hcap⟩ := hr.len
  have hbW := (Below.refl w.heap.size w).alloc (Nat.le_refl _) (.cells #[.slice a ps.length cap] 39)
  have hrW := hr.later hbW
  have hcW : (w.alloc (.cells #[.slice a ps.length cap] 39)).cell? ⟨w.heap.size, 0, none⟩ = some (.slice a ps.length cap) := by simp [go_sem]
  have hsW : w.heap.size < (w.alloc (.cells #[.slice a ps.length cap] 39)).heap.size := by simp
  have HR := Lib.hid hrW
  clear hr hrW
  obtain ⟨n, hn⟩ : ∃ n, n = ps.length := ⟨_, rfl⟩
  rw [← hn] at hbW HR hcW hsW hcap ⊢
  have HN := Lib.hid hn
  clear hn
  go_enter Tryd.func18, Tryd.ntmps18
  go_wp2_with fail
  generalize w.alloc (.cells #[.slice a n cap] 39) = W at *
  refine (implIsBook_any _ ps _ HR.out).mono ?_
  rintro e w1 ⟨rfl, hb1⟩
  have c1 := hcW ▸ hb1.cell (p := ⟨w.heap.size, 0, none⟩) hsW
  have hB1 := hbW.trans (hb1.mono hbW.size)
  have hs1 : w.heap.size < w1.heap.size := Nat.lt_of_lt_of_le hsW hb1.size
  have hR1 := Lib.hid (HR.out.later hb1)
  cases h : bookB ps with
  | false =>
    go_wp2
    go_ret2
    exact ⟨by rw [btB_no h, h]; rfl, hB1⟩
  | true =>
    have HB := Lib.hid h
    have hln := bookB_len h
    rw [← HN.out] at hln
    have hfresh : Hid (Bld (w1.alloc (.cells #[.pointer none, .slice none 0 0] 56)) w1.heap.size w1.heap.size (Lib.byteCells (btT ps 0).data.toList)) := Lib.hid (Lib.IsBuilderF.of (Lib.fresh_isBuilder _ _ w1))
    have hbA : Below w1.heap.size w1 (w1.alloc (.cells #[.pointer none, .slice none 0 0] 56)) := (Below.refl _ _).alloc (Nat.le_refl _) _
    have cA : (w1.alloc (.cells #[.pointer none, .slice none 0 0] 56)).cell? ⟨w.heap.size, 0, none⟩ = some (.slice a n cap) := by rw [hbA.cell (p := ⟨w.heap.size, 0, none⟩) hs1]; exact c1
    obtain ⟨B, hBe⟩ : ∃ B, B = w1.heap.size := ⟨_, rfl⟩
    go_wp2
    go_loopw [13] (fun i wr => ∃ k : Nat, k ≤ n ∧ i = .int .i64 k ∧ Bld wr w1.heap.size w1.heap.size (Lib.byteCells (btT ps k).data.toList) ∧ Below w1.heap.size w1 wr) (fun i wr => n - (intOf i).toNat)
    case atStart => exact ⟨0, Nat.zero_le _, rfl, hfresh.out, hbA⟩
    case round =>
      obtain ⟨k, hk, rfl, hbld, hbl⟩ := hrel
      have hsz := hbl.size
      have hbs := btT_size HB.out k (by rw [← HN.out]; exact hk)
      by_cases hlt : k < n
      · obtain ⟨g, off, u, ea, hg, hts, hc0, hc1, hru⟩ := (hR1.out.below hbl (Nat.le_refl _)).at_ HN.out k hlt
        subst ea
        obtain ⟨ua, uc, rfl⟩ := hru.rd.len
        obtain ⟨t1, s1, s2, s3⟩ := book_at HB.out (i := k) (by rw [← HN.out]; exact hlt)
        have hstep : Hid (Lib.byteCells (btT ps (k + 1)).data.toList = Lib.byteCells (btT ps k).data.toList ++ Lib.strCells ((phAt ps k).txt ++ ⟨#[32]⟩ ++ lineS 45 (phAt ps k).sig (phAt ps k).sig.length ++ ⟨#[10]⟩)) := Lib.hid (by
          rw [strCells_data, ← Lib.byteCells_append, btT, phL, data_app])
        have hbll : (Lib.byteCells (btT ps k).data.toList).length ≤ k * 23 := by rw [Lib.byteCells_length]; simpa using hbs
        have hLS := sig_line s3 s2 _ (Nat.le_refl _)
        have HWN : Hid (∀ X : World, Rd X (.slice ua (phAt ps k).sig.length uc) (phAt ps k).sig → Calls Tryd.prog 27 #[.slice ua (phAt ps k).sig.length uc, .string ⟨#[45]⟩] X fun e w' => e = .returned (.string (lineS 45 (phAt ps k).sig (phAt ps k).sig.length)) ∧ Below X.heap.size X w') := Lib.hid fun X hX => writeNumbers_any _ _ 45 X hX (by omega) (fun i hi => sig_get s3 i hi)
        have hbX := (Below.refl wr.heap.size wr).alloc (Nat.le_refl _) (.cells #[.string (phAt ps k).txt, .slice ua (phAt ps k).sig.length uc] 58)
        have hruX := hru.rd.later hbX
        have hx0 : (wr.alloc (.cells #[.string (phAt ps k).txt, .slice ua (phAt ps k).sig.length uc] 58)).cell? ⟨wr.heap.size, 0, none⟩ = some (.string (phAt ps k).txt) := by simp [go_sem]
        have hx1 : (wr.alloc (.cells #[.string (phAt ps k).txt, .slice ua (phAt ps k).sig.length uc] 58)).cell? ⟨wr.heap.size, 1, none⟩ = some (.slice ua (phAt ps k).sig.length uc) := by simp [go_sem]
        have hsX : wr.heap.size < (wr.alloc (.cells #[.string (phAt ps k).txt, .slice ua (phAt ps k).sig.length uc] 58)).heap.size := by simp
        have hbldX : Hid (Bld (wr.alloc (.cells #[.string (phAt ps k).txt, .slice ua (phAt ps k).sig.length uc] 58)).drew w1.heap.size w1.heap.size (Lib.byteCells (btT ps k).data.toList)) := Lib.hid (bld_later hbld hbX.drew)
        have hblX := hbl.trans (hbX.mono hsz)
        generalize Lib.byteCells (btT ps k).data.toList = bs at *
        generalize lineS 45 (phAt ps k).sig (phAt ps k).sig.length = LS at *
        generalize (phAt ps k).txt = T at *
        generalize (phAt ps k).sig = Z at *
        have h32 := one_size 32
        have h10 := one_size 10
        have hq1 : ¬ 9223372036854775807 < T.size + (⟨#[32]⟩ : ByteArray).size := by omega
        have hq2 : ¬ 9223372036854775807 < (T ++ ⟨#[32]⟩).size + LS.size := by rw [ByteArray.size_append]; omega
        have hq3 : ¬ 9223372036854775807 < (T ++ ⟨#[32]⟩ ++ LS).size + (⟨#[10]⟩ : ByteArray).size := by rw [ByteArray.size_append, ByteArray.size_append]; omega
        have hq4 : bs.length + (T ++ ⟨#[32]⟩ ++ LS ++ ⟨#[10]⟩).size ≤ 140737488355328 := by rw [ByteArray.size_append, ByteArray.size_append, ByteArray.size_append]; omega
        have hq1' : ¬ 9223372036854775807 < T.size + 1 := by omega
        have hq2' : ¬ 9223372036854775807 < T.size + 1 + LS.size := by omega
        have hq3' : ¬ 9223372036854775807 < T.size + 1 + LS.size + 1 := by omega
        clear hbld hru s3 t1 h32 h10 hq1 hq2 hq3
        go_wp2
        generalize wr.alloc (.cells #[.string T, .slice ua Z.length uc] 58) = X at *
        have hruD := Lib.hid (hruX.later (Below.refl _ X).drew)
        have K1 : Hid (∀ w2 : World, Below X.drew.heap.size X.drew w2 → w2.cell? ⟨wr.heap.size, 0, none⟩ = some (.string T) ∧ w2.cell? ⟨wr.heap.size, 1, none⟩ = some (.slice ua Z.length uc)) := Lib.hid fun w2 h =>
          ⟨by rw [h.cell (p := ⟨wr.heap.size, 0, none⟩) hsX]; exact hx0, by rw [h.cell (p := ⟨wr.heap.size, 1, none⟩) hsX]; exact hx1⟩
        have hy0 : X.drew.cell? ⟨wr.heap.size, 0, none⟩ = some (.string T) := (K1.out _ (Below.refl _ _)).1
        have hy1 : X.drew.cell? ⟨wr.heap.size, 1, none⟩ = some (.slice ua Z.length uc) := (K1.out _ (Below.refl _ _)).2
        go_region_with (first | (go_at_call 27; refine (HWN.out _ hruD.out).mono ?_; rintro e w2 ⟨rfl, hb2⟩; obtain ⟨z0, z1⟩ := K1.out _ hb2) | (go_at_call 35; refine (WriteString_any w1.heap.size w1.heap.size bs _ w2 (bld_later hbldX.out hb2) hq4 (Nat.le_trans hblX.size hb2.size)).mono ?_; rintro e w3 ⟨rfl, hbld3, hb3⟩))
        all_goals
          have hbZ := (hblX.drew.trans (hb2.mono hblX.drew.size)).trans hb3
          go_wp2
          go_roundw
          case rel => exact ⟨k + 1, by omega, by go_num, by rw [hstep.out]; exact hbld3, hbZ⟩
          case measure => simp [intOf]; omega
      · obtain rfl : k = n := by omega
        go_wp2_with (go_at_call 36; refine (Tryd.Builder_String_any_k w1.heap.size w1.heap.size (btT ps k).data.toList _ hbld hsz).mono ?_; rintro e w5 ⟨rfl, _, hb5, _⟩)
        go_ret2
        exact ⟨by rw [btB_yes h, h, ← HN.out]; exact congrArg (fun t => Ending.returned (.tuple #[.string t, .bool true])) (Lib.mk_data (btT ps k)), hB1.trans ((hbl.trans hb5).mono hB1.size)⟩
end Go.Proofs.YtkmdionldaejjaaDoor
