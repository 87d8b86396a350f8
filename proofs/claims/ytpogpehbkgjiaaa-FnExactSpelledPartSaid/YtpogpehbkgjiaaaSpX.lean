/- Chapter 3: the program's greatest number of letters. Written by a generator of this claim's author. -/
import Derived.Test.YtpogpehbkgjiaaaSpW
namespace Go.Proofs.Ytpogpehbkgjiaaa
open Go.RowKit
set_option linter.unusedSimpArgs false
set_option linter.unusedVariables false

theorem Try_info_bool : (Try.prog.info? 4).map (fun i => (i.zero, i.size, i.bytes)) = some (some (.bool false), 1, 1) := by kernel_rfl
theorem made_bools (n : Nat) : (madeCells (Value.bool false).cells (n * 1)).toList = (List.range (n * 1)).map fun _ => Value.bool false := by
  have := toList_madeCells_one (.bool false) n
  rw [Nat.mul_one]
  simpa [Value.cells, List.map_const'] using this
theorem made_boolRow {w w1 : World} {m : Nat} (h : w1.ownsRow w.heap.size 4 1 (.slice (some ⟨w.heap.size, 0, none⟩) m m) m (madeCells (Value.bool false).cells (m * 1)).toList) (hg : w.grownBy w1 none) :
    RowF w1 w.heap.size 4 1 (.slice (some ⟨w.heap.size, 0, none⟩) m m) m (fun _ => .bool false) ∧ Below w.heap.size w w1 := by
  refine ⟨?_, (Below.refl _ _).grown hg (Nat.le_refl _) (fun k h => by cases h)⟩
  unfold RowF; rw [← made_bools]; exact h
/-- Steps stay what they are while a row of bools is written. -/
theorem RdSS.keptB {w w' : World} {v : Value} {n : Nat} {ss : Nat → List St} {B g m : Nat} {F : Nat → Value} (h : RdSS w v n ss) (hg : w.grownBy w' (some g)) (hrow : RowF w B 4 1 (.slice (some ⟨g, 0, none⟩) m m) m F) : RdSS w' v n ss := by
  obtain ⟨B1, g1, F1, hv, h1, h2⟩ := h
  refine ⟨B1, g1, F1, hv, h1.kept hg ?_, fun i hi => ?_⟩
  · exact rows_apart h1 hrow (by decide)
  · obtain ⟨B', h3⟩ := h2 i hi
    exact ⟨B', World.ownsRow.kept h3 hg (rows_apart h3 hrow (by decide))⟩


set_option maxRecDepth 100000 in
set_option maxHeartbeats 2000000 in
theorem implPart_any (v : Value) (ps : List Ph) (s : ByteArray) (w : World) (hs : s.size ≤ maxLen) (hr : RdPs w v ps) :
    Calls Try.prog 31 #[.agg #[v], .string s] w fun e w' => e = .returned (.tuple #[.int .i64 (partN ps s), .bool (askB ps s)]) ∧ Below w.heap.size w w' := by
  obtain ⟨a, cap, rfl, -⟩ := hr.len
  have hb0 := (Below.refl w.heap.size w).alloc (Nat.le_refl _) (.cells #[.slice a ps.length cap] 31)
  have hrW := hr.later hb0
  have hx0 : (w.alloc (.cells #[.slice a ps.length cap] 31)).cell? ⟨w.heap.size, 0, none⟩ = some (.slice a ps.length cap) := by simp [go_sem]
  have hsz0 : w.heap.size < (w.alloc (.cells #[.slice a ps.length cap] 31)).heap.size := by simp
  cases hbk : bookB ps with
  | false =>
    have hC : Hid (askB ps s = false) := Lib.hid (askB_no1 hbk)
    have hf := Lib.hid (partN_no hC.out)
    go_enter Try.func31, Try.ntmps31
    go_wp2_with fail
    generalize w.alloc (.cells #[.slice a ps.length cap] 31) = W at *
    refine (implIsBook_is _ ps false _ hbk hrW).mono ?_
    rintro e w1 ⟨rfl, hb1⟩
    go_wp2
    go_ret2
    exact ⟨by rw [hf.out, hC.out]; rfl, hb0.trans (hb1.mono hb0.size)⟩
  | true =>
    cases hms : msgB s with
    | false =>
      have hC : Hid (askB ps s = false) := Lib.hid (askB_no2 hms)
      have hf := Lib.hid (partN_no hC.out)
      go_enter Try.func31, Try.ntmps31
      go_wp2_with fail
      generalize w.alloc (.cells #[.slice a ps.length cap] 31) = W at *
      refine (implIsBook_is _ ps true _ hbk hrW).mono ?_
      rintro e w1 ⟨rfl, hb1⟩
      go_wp2_with fail
      refine (isMessage_is s false _ hms hs).mono ?_
      rintro e w2 ⟨rfl, hb2⟩
      go_wp2
      go_ret2
      exact ⟨by rw [hf.out, hC.out]; rfl, hb0.trans ((hb1.trans (hb2.mono hb1.size)).mono hb0.size)⟩
    | true =>
      have hC : Hid (askB ps s = true) := Lib.hid (by unfold askB; rw [hbk, hms]; rfl)
      have hf := Lib.hid (partN_yes hC.out)
      have HPART := Lib.hid (part_is (s := s) hbk)
      have hl := msgB_len hms
      obtain ⟨i0, hi, hz0, hz1, hz2⟩ := info_parts Try_info_bool
      obtain ⟨m, hm⟩ : ∃ m, m = s.size + 1 := ⟨_, rfl⟩
      have HM := Lib.hid hm
      have hm0 : (0 : Int) < (m : Int) := by omega
      have hm4 : m ≤ 41 := by omega
      have hw1 : IntKind.i64.wrap ((s.size : Int) + 1) = (m : Int) := by rw [hm]; exact IntWalk.i64_in _ (by omega)
      clear hm
      go_enter Try.func31, Try.ntmps31
      go_wp2_with fail
      generalize w.alloc (.cells #[.slice a ps.length cap] 31) = W at *
      refine (implIsBook_is _ ps true _ hbk hrW).mono ?_
      rintro e w1 ⟨rfl, hb1⟩
      go_wp2_with fail
      refine (isMessage_is s true _ hms hs).mono ?_
      rintro e w2 ⟨rfl, hb2⟩
      have hb12 := hb1.trans (hb2.mono hb1.size)
      have c2 := hx0 ▸ hb12.cell (p := ⟨w.heap.size, 0, none⟩) hsz0
      have hsz2 : w.heap.size < w2.heap.size := Nat.lt_of_lt_of_le hsz0 hb12.size
      have hB2 := hb0.trans (hb12.mono hb0.size)
      have hr2 := hrW.later hb12
      have K3 : Hid (∀ w' : World, Below w2.heap.size w2 w' → w'.cell? ⟨w.heap.size, 0, none⟩ = some (.slice a ps.length cap)) := Lib.hid fun w' h => by
        rw [h.cell (p := ⟨w.heap.size, 0, none⟩) hsz2, hb12.cell (p := ⟨w.heap.size, 0, none⟩) hsz0]; exact hx0
      go_wp2_with (refine wpList_make_full _ rfl _ _ 68 rfl w2.heap.size 4 i0 (.bool false) 1 Try.underlying68 hi hz0 hz1 .i64 .i64 _ _ m rfl rfl rfl rfl (by rw [hz2]; omega) (by unfold maxLen; omega) (Nat.le_refl _) ?_; intro w3 hown3 hgrow3; have ho3 := made_boolRow hown3 hgrow3; obtain ⟨ho3, hb3⟩ := ho3; have hc3 := ho3.at_ 0 (by omega); have hf3 := ho3.frozen 0; have HP3 := Lib.hid (ho3.put 0 (.bool true)); have hb3s := hb3.setCell (p := ⟨w2.heap.size, 0, none⟩) (Nat.le_refl _) (.bool true); have c3 := K3.out _ hb3s; clear hown3 hgrow3 ho3)
      have HROW0 : Hid (RowF (w3.setCell ⟨w2.heap.size, 0, none⟩ (.bool true)) w2.heap.size 4 1 (.slice (some ⟨w2.heap.size, 0, none⟩) m m) m (fun j => .bool ((reachAt (txSt ps allS s) 0).1 j))) := Lib.hid (HP3.out.1.congr fun j hj => by
        show (if j = 0 then Value.bool true else .bool false) = .bool (j == 0)
        by_cases e : j = 0
        · subst e; rfl
        · rw [if_neg e]; simp [e])
      generalize w3.setCell ⟨w2.heap.size, 0, none⟩ (.bool true) = W3 at *
      refine (phrasesByText_any _ ps _ hbk (hr2.later hb3s)).mono ?_
      rintro e w4 ⟨bm, rfl, hmap, -, hb4⟩
      go_wp2_with fail
      refine (textSteps_any bm s ps allS _ hbk hl hmap).mono ?_
      rintro e w5 ⟨v5, rfl, hss, hb5⟩
      have hb45 := hb4.trans (hb5.mono hb4.size)
      have HROW5 := Lib.hid (HROW0.out.later hb45)
      have HSS := Lib.hid hss
      have hb25 := hb3s.trans (hb45.mono hb3s.size)
      obtain ⟨gs, rfl, hgs⟩ := hss.v
      have HAH := Lib.hid (txSt_ahead hbk allS s)
      have HLN := Lib.hid (txSt_len hbk allS s)
      have hgl := HROW5.out.lt.2
      clear hss hmap hc3 hf3 HP3 hr2 hrW hr
      obtain ⟨ss, hsse⟩ : ∃ ss, ss = txSt ps allS s := ⟨_, rfl⟩
      have HSSE := Lib.hid hsse
      rw [← hsse] at HROW5 HSS HAH HLN
      clear hsse HROW0
      go_wp2
      go_loopw [7, 31] (fun pv i wr => ∃ k : Nat, k ≤ s.size ∧ i = .int .i64 k ∧ pv = .int .i64 ((reachAt ss k).2 : Nat) ∧ RowF wr w2.heap.size 4 1 (.slice (some ⟨w2.heap.size, 0, none⟩) m m) m (fun j => .bool ((reachAt ss k).1 j)) ∧ w5.grownBy wr (some w2.heap.size) ∧ Below w2.heap.size w2 wr) (fun _ i _ => s.size - (intOf i).toNat)
      case atStart => exact ⟨0, Nat.zero_le _, rfl, rfl, HROW5.out, World.grownBy.refl _ _, hb25⟩
      case round =>
        obtain ⟨k, hk, rfl, rfl, hrow, hgr, hbl⟩ := hrel
        by_cases hlt : k < s.size
        · have hssw := HSS.out.keptB hgr HROW5.out
          obtain ⟨hgs2, B', ad, kc, hc, hst, hle⟩ := hssw.at_ k hlt
          obtain ⟨len, hlen⟩ : ∃ len, len = (ss k).length := ⟨_, rfl⟩
          have hl40 : len ≤ 40 := by rw [hlen]; exact HLN.out k hlt
          rw [← hlen] at hc hst hle
          have HLEN := Lib.hid hlen
          have HST := Lib.hid hst
          have hrk := hrow.at_ k (by have := HM.out; omega)
          have hkI : (k : Int) < (s.size : Int) := by omega
          have hkm : (k : Int) < (m : Int) := by have := HM.out; omega
          clear hssw hlen hst
          cases hre : (reachAt ss k).1 k with
          | false =>
            rw [hre] at hrk
            have HN := Lib.hid (reachAt_no hre)
            clear hre
            go_wp2
            go_roundw
            case rel => exact ⟨k + 1, by omega, by go_num, by rw [HN.out], by rw [HN.out]; exact hrow, hgr, hbl⟩
            case measure => simp [intOf]; omega
          | true =>
            rw [hre] at hrk
            have HY := Lib.hid (reachAt_yes hre)
            obtain ⟨G0, hG0⟩ : ∃ G0, G0 = (reachAt ss k).1 := ⟨_, rfl⟩
            obtain ⟨P0, hP0⟩ : ∃ P0, P0 = (reachAt ss k).2 := ⟨_, rfl⟩
            rw [← hG0, ← hP0] at HY
            rw [← hG0] at hrow
            rw [← hP0]
            clear hre hG0 hP0
            have HRK := Lib.hid hrow
            rename World => WL
            clear hrow
            go_wp2
            go_loopw [7, 43] (fun pv i wr => ∃ (q p : Nat), q ≤ len ∧ i = .int .i64 q ∧ pv = .int .i64 p ∧ Hid (p = foldP P0 ((ss k).take q)) ∧ RowF wr w2.heap.size 4 1 (.slice (some ⟨w2.heap.size, 0, none⟩) m m) m (fun j => .bool (foldB G0 ((ss k).take q) j)) ∧ WL.grownBy wr (some w2.heap.size) ∧ Below w2.heap.size w2 wr) (fun _ i _ => len - (intOf i).toNat)
            case atStart => exact ⟨0, P0, Nat.zero_le _, rfl, rfl, Lib.hid rfl, HRK.out, World.grownBy.refl _ _, hbl⟩
            case round =>
              obtain ⟨q, p, hq, rfl, rfl, hp, hrow, hgrq, hblq⟩ := hrel
              by_cases hltq : q < len
              · obtain ⟨g2, rfl, -, hg2, hd0, hd1⟩ := OwnSt.at_ (World.ownsRow.kept HST.out hgrq (rows_apart HST.out HRK.out (by decide))) HLEN.out q hltq
                have hmem := HAH.out k hlt _ (stAt_mem (by rw [← HLEN.out]; exact hltq))
                have hsn := take_snoc (l := ss k) (i := q) (by rw [← HLEN.out]; exact hltq)
                obtain ⟨xp, xe, hx⟩ : ∃ xp xe, stAt (ss k) q = (xp, xe) := ⟨_, _, rfl⟩
                rw [hx] at hd0 hd1 hmem hsn
                obtain ⟨he1, he2⟩ := hmem
                simp only at hd0 hd1 he1 he2
                have HSN := Lib.hid hsn
                have hgA := World.grownBy_alloc wr (.cells #[.int .i64 xp, .int .i64 xe] 71) (some w2.heap.size)
                have hbA := (Below.refl wr.heap.size wr).alloc (Nat.le_refl _) (.cells #[.int .i64 xp, .int .i64 xe] 71)
                have hrA := hrow.later hbA
                have hblA := hblq.trans (hbA.mono hblq.size)
                have hx1 : (wr.alloc (.cells #[.int .i64 xp, .int .i64 xe] 71)).cell? ⟨wr.heap.size, 1, none⟩ = some (.int .i64 xe) := by simp [go_sem]
                have hwg : w2.heap.size ≠ wr.heap.size := by have := hrow.lt.2; omega
                have hx1b : ((wr.alloc (.cells #[.int .i64 xp, .int .i64 xe] 71)).setCell ⟨w2.heap.size, xe, none⟩ (.bool true)).cell? ⟨wr.heap.size, 1, none⟩ = some (.int .i64 xe) := by rw [setc_far hwg]; exact hx1
                have hce := hrA.at_ xe (by have := HM.out; omega)
                have hfe := hrA.frozen xe
                have HPUT := Lib.hid (hrA.put xe (.bool true))
                have heI : (xe : Int) < (m : Int) := by have := HM.out; omega
                obtain ⟨pm, hpm⟩ : ∃ pm, pm = max p xe := ⟨_, rfl⟩
                have hmx : max (p : Int) (xe : Int) = (pm : Int) := by omega
                have HPX : Hid ((if p < xe then (xe : Int) else (p : Int)) = (pm : Int)) := Lib.hid (by split <;> omega)
                have HPM : Hid (pm = foldP P0 ((ss k).take (q + 1))) := Lib.hid (by rw [HSN.out, foldP_snoc, ← hp.out, hpm])
                clear hsn hx hrow hrA hpm
                go_wp2
                go_roundw
                case rel =>
                  refine ⟨q + 1, pm, by omega, by go_num, by rw [HPX.out], HPM, ?_, hgrq.trans (hgA.trans HPUT.out.2), hblA.setCell (p := ⟨w2.heap.size, xe, none⟩) (Nat.le_refl _) _⟩
                  refine HPUT.out.1.congr fun j hj => ?_
                  rw [HSN.out, foldB_snoc]
                  show (if j = xe then Value.bool true else .bool (foldB G0 ((ss k).take q) j)) = .bool (if j = xe then true else _)
                  split <;> rfl
                case measure => simp [intOf]; omega
              · obtain rfl : q = len := by omega
                have HPF : Hid (p = (reachAt ss (k + 1)).2) := Lib.hid (by rw [HY.out, hp.out, HLEN.out, List.take_length])
                have HRF : Hid (RowF wr w2.heap.size 4 1 (.slice (some ⟨w2.heap.size, 0, none⟩) m m) m (fun j => .bool ((reachAt ss (k + 1)).1 j))) := Lib.hid (by rw [HY.out]; have h := hrow; rw [HLEN.out, List.take_length] at h; exact h)
                clear hrow
                go_wp2
                go_roundw
                case rel => exact ⟨k + 1, by omega, by go_num, by rw [← HPF.out], HRF.out, hgr.trans hgrq, hblq⟩
                case measure => simp [intOf]; omega
        · obtain rfl : k = s.size := by omega
          have HRES : Hid (partN ps s = ((reachAt ss s.size).2 : Nat)) := Lib.hid (by rw [hf.out, HSSE.out, HPART.out])
          go_wp2
          go_ret2
          exact ⟨by rw [HRES.out, hC.out]; rfl, hB2.trans (hbl.mono hB2.size)⟩
end Go.Proofs.Ytpogpehbkgjiaaa
