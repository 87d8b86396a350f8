/- Chapter 2: the books that are made of copies. -/
import Derived.Test.YtkknmjioihnpkaaBkX2
namespace Go.Proofs.Ytkknmjioihnpkaa
open Go.RowKit
set_option linter.unusedSimpArgs false
set_option linter.unusedVariables false

def okPs (c : Bool) (ps : List Ph) : List Ph := if c then ps else []
theorem okPs_yes {c : Bool} {ps : List Ph} (h : c = true) : okPs c ps = ps := by simp [okPs, h]
theorem okPs_no {c : Bool} {ps : List Ph} (h : c = false) : okPs c ps = [] := by simp [okPs, h]
def CopyPost (c : Bool) (ps : List Ph) (w : World) (e : Ending) (w' : World) : Prop := ∃ v, e = .returned (.tuple #[.agg #[v], .bool c]) ∧ OwnPs w' w.heap.size v (okPs c ps) ∧ Below w.heap.size w w'

theorem bkIf_any (v : Value) (ps : List Ph) (w : World) (hz : SmallPs ps) (hr : RdPs w v ps) :
    Calls Try.prog 73 #[v] w (CopyPost (bookB ps) ps w) := by
  obtain ⟨a, cap, rfl, -⟩ := hr.len
  have hbR := (Below.refl w.heap.size w).alloc (Nat.le_refl _) (.cells #[.slice none 0 0] 25)
  have hrR := hr.later hbR
  go_enter Try.func73, Try.ntmps73
  go_wp2_with fail
  refine (bkOwn_any _ ps _ hz hrR).mono ?_
  rintro e w1 ⟨v1, rfl, ho1, hb1⟩
  obtain ⟨a1, cap1, rfl, -⟩ := ho1.rd.len
  have hs1 := hb1.size
  simp at hs1
  have c1 := hb1.cell (p := ⟨w.heap.size, 0, none⟩) (by simp)
  have f1 := hb1.frozen (p := ⟨w.heap.size, 0, none⟩) (by simp)
  simp [go_sem] at c1 f1
  have hbT := (Below.refl w1.heap.size w1).alloc (Nat.le_refl _) (.cells #[.slice a1 ps.length cap1] 25)
  have hoT := ho1.later hbT
  have cT := c1 ▸ hbT.cell (p := ⟨w.heap.size, 0, none⟩) (by show w.heap.size < w1.heap.size; omega)
  have fT := f1 ▸ hbT.frozen (p := ⟨w.heap.size, 0, none⟩) (by show w.heap.size < w1.heap.size; omega)
  have hBT := (hbR.trans (hb1.mono (by simp))).trans (hbT.mono (by omega))
  have hxT : (w1.alloc (.cells #[.slice a1 ps.length cap1] 25)).cell? ⟨w1.heap.size, 0, none⟩ = some (.slice a1 ps.length cap1) := by simp [go_sem]
  have hsT : (w1.alloc (.cells #[.slice a1 ps.length cap1] 25)).heap.size = w1.heap.size + 1 := by simp
  clear c1 f1
  go_wp2_with fail
  generalize w1.alloc (.cells #[.slice a1 ps.length cap1] 25) = W at *
  refine (bkGood_any _ ps _ hoT.rd).mono ?_
  rintro e w2 ⟨rfl, hb2⟩
  have c2 := cT ▸ hb2.cell (p := ⟨w.heap.size, 0, none⟩) (by show w.heap.size < W.heap.size; omega)
  have f2 := fT ▸ hb2.frozen (p := ⟨w.heap.size, 0, none⟩) (by show w.heap.size < W.heap.size; omega)
  have x2 := hxT ▸ hb2.cell (p := ⟨w1.heap.size, 0, none⟩) (by show w1.heap.size < W.heap.size; omega)
  have hB2 := hBT.trans (hb2.mono hBT.size)
  have ho2 := hoT.later hb2
  have hs2 : w.heap.size < w2.heap.size := by have := hb2.size; omega
  have hbase : OwnPs w2 (w.heap.size + 1) (.slice a1 ps.length cap1) ps := ho2.base (by simp)
  clear cT fT hxT
  cases hbk : bookB ps with
  | false =>
    have HBK := Lib.hid hbk
    clear hbk
    go_wp2
    refine bodyPost_ret (v := .tuple #[.agg #[.slice none 0 0], .bool false]) (by simp [results, Try.results73, go_sem, c2, f2, hs2]) rfl ⟨.slice none 0 0, by rw [HBK.out], by rw [okPs_no HBK.out]; exact OwnPs.nil _ _, ?_⟩
    exact hB2.setCell (p := ⟨w.heap.size, 0, none⟩) (Nat.le_refl _) _
  | true =>
    have HBK := Lib.hid hbk
    clear hbk
    go_wp2
    refine bodyPost_ret (v := .tuple #[.agg #[.slice a1 ps.length cap1], .bool true]) (by simp [results, Try.results73, go_sem, c2, f2, hs2]) rfl ⟨.slice a1 ps.length cap1, by rw [HBK.out], ?_, ?_⟩
    · rw [okPs_yes HBK.out]; exact (hbase.setLow (b := w.heap.size) (by omega)).base (by omega)
    · exact hB2.setCell (p := ⟨w.heap.size, 0, none⟩) (Nat.le_refl _) _

set_option maxRecDepth 100000 in
set_option maxHeartbeats 1600000 in
theorem bookOfCopies_any (v : Value) (ps : List Ph) (w : World) (hz : SmallPs ps) (hr : RdPs w v ps) :
    Calls Try.prog 75 #[v] w (CopyPost (bookB ps) ps w) := by
  obtain ⟨i0, hi, hz0, hz1, hz2⟩ := info_parts Try_info_phrase
  obtain ⟨a, cap, rfl, -⟩ := hr.len
  have hbR := (Below.refl w.heap.size w).alloc (Nat.le_refl _) (.cells #[.slice none 0 0] 25)
  have hrR := hr.later hbR
  have hcR : (w.alloc (.cells #[.slice none 0 0] 25)).cell? ⟨w.heap.size, 0, none⟩ = some (.slice none 0 0) := by simp [go_sem]
  have hfR : (w.alloc (.cells #[.slice none 0 0] 25)).frozen? ⟨w.heap.size, 0, none⟩ = false := by simp [go_sem]
  have hsR : (w.alloc (.cells #[.slice none 0 0] 25)).heap.size = w.heap.size + 1 := by simp
  go_enter Try.func75, Try.ntmps75
  go_wp2_with fail
  generalize w.alloc (.cells #[.slice none 0 0] 25) = R at *
  refine (implIsBook_any _ ps _ hrR).mono ?_
  rintro e w1 ⟨rfl, hb1⟩
  have c1 := hcR ▸ hb1.cell (p := ⟨w.heap.size, 0, none⟩) (by show w.heap.size < R.heap.size; omega)
  have f1 := hfR ▸ hb1.frozen (p := ⟨w.heap.size, 0, none⟩) (by show w.heap.size < R.heap.size; omega)
  have hB1 := hbR.trans (hb1.mono hbR.size)
  have hs1 : w.heap.size < w1.heap.size := by have := hb1.size; omega
  clear hcR hfR
  cases hbk : bookB ps with
  | false =>
    have HBK := Lib.hid hbk
    clear hbk
    go_wp2
    refine bodyPost_ret (v := .tuple #[.agg #[.slice none 0 0], .bool false]) (by simp [results, Try.results75, go_sem, c1, f1, hs1]) rfl ⟨.slice none 0 0, by rw [HBK.out], by rw [okPs_no HBK.out]; exact OwnPs.nil _ _, ?_⟩
    exact hB1.setCell (p := ⟨w.heap.size, 0, none⟩) (Nat.le_refl _) _
  | true =>
    have hr1 := hrR.later hb1
    have HBK := Lib.hid hbk
    obtain ⟨hz3, hz4⟩ := hz
    obtain ⟨n, hn⟩ : ∃ n, ps.length = n := ⟨_, rfl⟩
    have HR : Hid (RdPs w1 (.slice a n cap) ps) := Lib.hid (by rw [← hn]; exact hr1)
    have HZ := Lib.hid hz4
    clear hr1 hrR hr hz4 hbk
    rw [hn] at hz3
    simp only [hn]
    have HN := Lib.hid hn
    clear hn
    go_wp2_with (refine wpList_make_full _ rfl _ _ 23 rfl w1.heap.size 33 i0 (.agg #[.string ByteArray.empty, .slice none 0 0]) 2 Try.underlying23 hi hz0 hz1 .i64 .i64 _ _ n rfl rfl rfl rfl (by rw [hz2]; omega) (by unfold maxLen; omega) (Nat.le_refl _) ?_; intro w2 hown2 hgrow2)
    have ho0 : OwnPs w2 w1.heap.size (.slice (some ⟨w1.heap.size, 0, none⟩) n n) (padPs ps n 0) := OwnPs.made HN.out hown2
    have hb0 : Below w1.heap.size w1 w2 := (Below.refl _ _).grown hgrow2 (Nat.le_refl _) (fun k h => by cases h)
    clear hown2 hgrow2
    go_loopw [17] (fun i wr => ∃ k : Nat, k ≤ n ∧ i = .int .i64 k ∧ OwnPs wr w1.heap.size (.slice (some ⟨w1.heap.size, 0, none⟩) n n) (padPs ps n k) ∧ Below w1.heap.size w1 wr ∧ w1.heap.size < wr.heap.size) (fun i wr => n - (intOf i).toNat)
    case atStart => exact ⟨0, Nat.zero_le _, rfl, ho0, hb0, (ho0.lt _ rfl).2⟩
    case round =>
      obtain ⟨k, hk, rfl, hown, hbel, hsz⟩ := hrel
      by_cases hlt : k < n
      · obtain ⟨g, off, uu, rfl, hg, hts, hc0, hc1, hru⟩ := (HR.out.below hbel (Nat.le_refl _)).at_ HN.out.symm k hlt
        have hzk := HZ.out k (by rw [HN.out]; exact hlt)
        obtain ⟨ua, uc, rfl⟩ := hru.rd.len
        have hbX := (Below.refl wr.heap.size wr).alloc (Nat.le_refl _) (.cells #[.string (phAt ps k).txt, .slice ua (phAt ps k).sig.length uc] 33)
        have hx0 : (wr.alloc (.cells #[.string (phAt ps k).txt, .slice ua (phAt ps k).sig.length uc] 33)).cell? ⟨wr.heap.size, 0, none⟩ = some (.string (phAt ps k).txt) := by simp [go_sem]
        have hx1 : (wr.alloc (.cells #[.string (phAt ps k).txt, .slice ua (phAt ps k).sig.length uc] 33)).cell? ⟨wr.heap.size, 1, none⟩ = some (.slice ua (phAt ps k).sig.length uc) := by simp [go_sem]
        have hsX : wr.heap.size < (wr.alloc (.cells #[.string (phAt ps k).txt, .slice ua (phAt ps k).sig.length uc] 33)).heap.size := by simp
        go_wp2_with fail
        generalize wr.alloc (.cells #[.string (phAt ps k).txt, .slice ua (phAt ps k).sig.length uc] 33) = W at *
        have hbD := hbX.drew
        have hownD := Lib.hid (hown.later hbD)
        have hruD := Lib.hid (hru.later hbD)
        have hBD := hbel.trans (hbD.mono hbel.size)
        have y0 : W.drew.cell? ⟨wr.heap.size, 0, none⟩ = some (.string (phAt ps k).txt) := by simpa [go_sem] using hx0
        have y1 : W.drew.cell? ⟨wr.heap.size, 1, none⟩ = some (.slice ua (phAt ps k).sig.length uc) := by simpa [go_sem] using hx1
        have ysz : wr.heap.size < W.drew.heap.size := by simpa using hsX
        have K1 : Hid (∀ w1 : World, Below W.drew.heap.size W.drew w1 → w1.cell? ⟨wr.heap.size, 0, none⟩ = some (.string (phAt ps k).txt) ∧ w1.cell? ⟨wr.heap.size, 1, none⟩ = some (.slice ua (phAt ps k).sig.length uc)) := Lib.hid fun w1 h =>
          ⟨by rw [h.cell (p := ⟨wr.heap.size, 0, none⟩) ysz]; exact y0, by rw [h.cell (p := ⟨wr.heap.size, 1, none⟩) ysz]; exact y1⟩
        have K3 : Hid (∀ (x : World) (q0 q1 : Value) (i j : Nat), Below W.drew.heap.size W.drew x → ((x.setCell ⟨w1.heap.size, i, none⟩ q0).setCell ⟨w1.heap.size, j, none⟩ q1).cell? ⟨wr.heap.size, 0, none⟩ = some (.string (phAt ps k).txt) ∧ ((x.setCell ⟨w1.heap.size, i, none⟩ q0).setCell ⟨w1.heap.size, j, none⟩ q1).cell? ⟨wr.heap.size, 1, none⟩ = some (.slice ua (phAt ps k).sig.length uc)) := Lib.hid fun x q0 q1 i j h => by
          have hne : w1.heap.size ≠ wr.heap.size := by omega
          rw [setc_far hne, setc_far hne, setc_far hne, setc_far hne]
          exact K1.out _ h
        go_region_held3 (fun w' => w'.cell? ⟨wr.heap.size, 0, none⟩ = some (.string (phAt ps k).txt) ∧ w'.cell? ⟨wr.heap.size, 1, none⟩ = some (.slice ua (phAt ps k).sig.length uc))
          (first | go_keep | exact K1.out _ hb3 | exact K3.out _ _ _ _ _ hb3)
          ((go_at_call 98; refine (clone_any _ (phAt ps k).sig _ (by have := hzk.2; omega) hruD.out.rd).mono ?_; rintro e w3 ⟨u3, rfl, ho3, hb3⟩; obtain ⟨ad, cp, rfl⟩ := ho3.rd.len; obtain ⟨⟨z0, q0⟩, ⟨z1, q1⟩, g0, g1⟩ := (hownD.out.later hb3).cellsAt (padPs_len HN.out hk) k hlt; have hPP := Lib.hid (hownD.out.put (padPs_len HN.out hk) hlt hb3 ho3 hts hBD.size); rw [padPs_step HN.out hlt] at hPP))
        go_wp2
        go_roundw
        case rel => exact ⟨k + 1, by omega, by go_num, hPP.out.1, (hBD.trans (hb3.mono hBD.size)).grown hPP.out.2 (by have := hBD.size; have := hb3.size; omega) (fun j hj => by cases hj; exact Nat.le_refl _), by have := hBD.size; have := hb3.size; simp; omega⟩
        case measure => simp [intOf]; omega
      · have : k = n := by omega
        subst this
        have c2 := c1 ▸ hbel.cell (p := ⟨w.heap.size, 0, none⟩) hs1
        have f2 := f1 ▸ hbel.frozen (p := ⟨w.heap.size, 0, none⟩) hs1
        have hs2 : w.heap.size < wr.heap.size := by omega
        have hown2 : OwnPs wr w1.heap.size (.slice (some ⟨w1.heap.size, 0, none⟩) k k) ps := by rw [← padPs_all HN.out]; exact hown
        have hB2 := hB1.trans (hbel.mono (by omega))
        clear c1 f1 hown
        go_wp2
        refine bodyPost_ret (v := .tuple #[.agg #[.slice (some ⟨w1.heap.size, 0, none⟩) k k], .bool true]) (by simp [results, Try.results75, go_sem, c2, f2, hs2]) rfl ⟨.slice (some ⟨w1.heap.size, 0, none⟩) k k, by rw [HBK.out], ?_, ?_⟩
        · rw [okPs_yes HBK.out]; exact (hown2.setLow (b := w.heap.size) (by omega)).base (by omega)
        · exact hB2.setCell (p := ⟨w.heap.size, 0, none⟩) (Nat.le_refl _) _
end Go.Proofs.Ytkknmjioihnpkaa
