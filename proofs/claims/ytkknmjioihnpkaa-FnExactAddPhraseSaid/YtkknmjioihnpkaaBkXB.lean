/- Chapter 2: the exact law of AddPhrase. -/
import Derived.Test.YtkknmjioihnpkaaBkX9
import Derived.Test.YtkknmjioihnpkaaBkX7
import Derived.Test.YtkknmjioihnpkaaBkO2
import Derived.Deep.DeepCutAuto
namespace Go.Proofs.Ytkknmjioihnpkaa
open Go.RowKit
set_option linter.unusedSimpArgs false
set_option linter.unusedVariables false

def Ex (l : List Nat) (x y : World) : Prop := ∀ k, k ∈ l → y.heap[k]? = x.heap[k]?
theorem Ex.below {l : List Nat} {x y z : World} {C : Nat} (h : Ex l x y) (hb : Below C y z) (hl : ∀ k, k ∈ l → k < C) : Ex l x z := fun k hk => (hb.block k (hl k hk)).trans (h k hk)
theorem Ex.kept {l : List Nat} {x y z : World} {B C : Nat} (h : Ex l x y) (hb : KeptBC B C y z) (hl : ∀ k, k ∈ l → k < y.heap.size ∧ (k < B ∨ C ≤ k)) : Ex l x z := fun k hk => (hb.block k (hl k hk).1 (hl k hk).2).trans (h k hk)
theorem Ex.cell {l : List Nat} {x y : World} (h : Ex l x y) {b o : Nat} {v : Value} (hc : x.cell? ⟨b, o, none⟩ = some v) (hk : b ∈ l) : y.cell? ⟨b, o, none⟩ = some v := (World.cell?_of_block (h b hk)).trans hc
theorem jcell {x y : World} {b : Nat} {v : Value} (h : x.cell? ⟨b, 0, none⟩ = some v) (hb : Below x.heap.size x y) (hz : b < x.heap.size) : y.cell? ⟨b, 0, none⟩ = some v := (hb.cell (p := ⟨b, 0, none⟩) hz).trans h
theorem jfroz {x y : World} {b : Nat} {v : Bool} (h : x.frozen? ⟨b, 0, none⟩ = v) (hb : Below x.heap.size x y) (hz : b < x.heap.size) : y.frozen? ⟨b, 0, none⟩ = v := (hb.frozen (p := ⟨b, 0, none⟩) hz).trans h
theorem jsize {x y : World} {b : Nat} {v : Value} (h : x.cell? ⟨b, 0, none⟩ = some v) (hb : Below x.heap.size x y) (hz : b < x.heap.size) : b < y.heap.size := Nat.lt_of_lt_of_le hz hb.size
theorem markPhrase_any (B : Nat) (s : ByteArray) (u : Value) (zs : List Int) (k0 : Int) (w : World) (h0 : 0 ≤ k0) (h1 : k0 ≤ 4398046511104) (hz : zs.length ≤ 1099511627776) (ho : Own w B u zs) :
    Calls Try.prog 47 #[.agg #[.string s, u], .int .i64 k0] w fun e w' => e = .returned (.int .i64 (k0 + zs.length)) ∧ ∃ o, (w.alloc o).grownBy w' u.ownBlock := by
  obtain ⟨a, cap, rfl⟩ := ho.rd.len
  go_enter Try.func47, Try.ntmps47
  go_wp2_with fail
  refine (markIntS_wide B _ zs k0 _ h0 h1 hz (ho.alloc _)).mono ?_
  rintro e w1 ⟨rfl, ho1, hg1⟩
  go_wp2
  go_ret
  exact ⟨rfl, _, hg1⟩

set_option maxRecDepth 100000 in
set_option maxHeartbeats 3200000 in
theorem walk_FnExactAddPhrase (v0 : Value) (ps : List Ph) (s : ByteArray) (u0 : Value) (zs : List Int) (w : World) (w0 : RdPs w v0 ps) (w1 : s.size ≤ maxLen ∧ RdC w u0 zs) :
    Calls Try.prog 12 #[.agg #[v0], .agg #[.string s, u0]] w fun e w' => e = .returned (.bool true) ∧ Below w.heap.size w w' := by
  obtain ⟨a, cap, rfl, -⟩ := w0.len
  obtain ⟨hs, hu0⟩ := w1
  obtain ⟨ua, uc, rfl⟩ := hu0.rd.len
  have hm := hs
  unfold maxLen at hm
  have hbW := ((Below.refl w.heap.size w).alloc (Nat.le_refl _) (.cells #[.slice a ps.length cap] 41)).alloc (by simp) (.cells #[.string s, .slice ua zs.length uc] 57)
  have hrW := w0.later hbW
  have huW := hu0.later hbW
  have hsW : ((w.alloc (.cells #[.slice a ps.length cap] 41)).alloc (.cells #[.string s, .slice ua zs.length uc] 57)).heap.size = w.heap.size + 1 + 1 := by simp
  have hW0 : ((w.alloc (.cells #[.slice a ps.length cap] 41)).alloc (.cells #[.string s, .slice ua zs.length uc] 57)).cell? ⟨w.heap.size, 0, none⟩ = some (.slice a ps.length cap) := by simp [go_sem]
  have hW1 : ((w.alloc (.cells #[.slice a ps.length cap] 41)).alloc (.cells #[.string s, .slice ua zs.length uc] 57)).cell? ⟨w.heap.size + 1, 0, none⟩ = some (.string s) := by simp [go_sem]
  have hW2 : ((w.alloc (.cells #[.slice a ps.length cap] 41)).alloc (.cells #[.string s, .slice ua zs.length uc] 57)).cell? ⟨w.heap.size + 1, 1, none⟩ = some (.slice ua zs.length uc) := by simp [go_sem]
  go_enter Try.func12, Try.ntmps12
  go_wp2_with fail
  generalize (w.alloc (.cells #[.slice a ps.length cap] 41)).alloc (.cells #[.string s, .slice ua zs.length uc] 57) = W at *
  have HK : Hid (∀ x : World, Below W.heap.size W x → x.cell? ⟨w.heap.size, 0, none⟩ = some (.slice a ps.length cap) ∧ x.cell? ⟨w.heap.size + 1, 0, none⟩ = some (.string s) ∧ x.cell? ⟨w.heap.size + 1, 1, none⟩ = some (.slice ua zs.length uc)) := Lib.hid fun x h =>
    ⟨by rw [h.cell (p := ⟨w.heap.size, 0, none⟩) (by show w.heap.size < W.heap.size; omega)]; exact hW0, by rw [h.cell (p := ⟨w.heap.size + 1, 0, none⟩) (by show w.heap.size + 1 < W.heap.size; omega)]; exact hW1, by rw [h.cell (p := ⟨w.heap.size + 1, 1, none⟩) (by show w.heap.size + 1 < W.heap.size; omega)]; exact hW2⟩
  clear hW0 hW1 hW2
  refine (szBook_any _ ps _ _ (by omega) (by omega) hrW).mono ?_
  rintro e w1 ⟨r, rfl, hb1, hr⟩
  obtain ⟨k0, k1, k2⟩ := HK.out _ hb1
  rcases hr with rfl | ⟨r0, r1, hsm⟩
  · go_wp2
    go_ret
    exact ⟨rfl, hbW.trans (hb1.mono hbW.size)⟩
  · go_wp2_with fail
    refine (szPhrase_any _ _ zs _ _ r0 (by omega) hs (huW.later hb1)).mono ?_
    rintro e w2 ⟨r', rfl, hb2', hr'⟩
    have hb2 := hb1.trans (hb2'.mono hb1.size)
    clear k0 k1 k2
    obtain ⟨k0, k1, k2⟩ := HK.out _ hb2
    rcases hr' with rfl | ⟨r0', r1', hs20, hz20⟩
    · go_wp2
      go_ret
      exact ⟨rfl, hbW.trans (hb2.mono hbW.size)⟩
    · obtain ⟨cb, hcb⟩ : ∃ cb, cb = addC ps ⟨s, zs⟩ := ⟨_, rfl⟩
      obtain ⟨qs, hqs⟩ : ∃ qs, qs = okPs (addC ps ⟨s, zs⟩) (addL ps ⟨s, zs⟩) := ⟨_, rfl⟩
      have hsq : SmallPs qs := by
        rw [hqs]
        cases hbk : bookB ps with
        | true => exact (addL_small hsm hbk ⟨hs20, hz20⟩).ok _
        | false => rw [okPs_no (addC_no hbk)]; exact ⟨by simp, fun i hi => absurd hi (by simp)⟩
      have HSP : Hid (∀ (v u : Value) (x : World), RdPs x v ps → RdC x u zs → Calls Try.prog 43 #[.agg #[v], .agg #[.string s, u]] x fun e x' => ∃ v', e = .returned (.tuple #[.agg #[v'], .bool cb]) ∧ OwnPs x' x.heap.size v' qs ∧ Below x.heap.size x x') := Lib.hid fun v u x h h2 => by rw [hcb, hqs]; exact specAdd_any v u ps s zs x hs20 hz20 hsm h h2
      have HIM : Hid (∀ (v u : Value) (x : World), RdPs x v ps → RdC x u zs → Calls Try.prog 45 #[.agg #[v], .agg #[.string s, u]] x fun e x' => ∃ v', e = .returned (.tuple #[.agg #[v'], .bool cb]) ∧ OwnPs x' x.heap.size v' qs ∧ Below x.heap.size x x') := Lib.hid fun v u x h h2 => by rw [hcb, hqs]; exact implAdd_any v u ps s zs x hs20 hz20 hsm h h2
      have HTB : Hid (∀ x : World, Below W.heap.size W x → Calls Try.prog 28 #[.agg #[.slice a ps.length cap]] x fun e x' => ∃ v', e = .returned (.agg #[v']) ∧ OwnPs x' x.heap.size v' ps ∧ Below x.heap.size x x') := Lib.hid fun x h => toBook_any _ ps _ hsm (hrW.later h)
      have HTP : Hid (∀ x : World, Below W.heap.size W x → Calls Try.prog 44 #[.agg #[.string s, .slice ua zs.length uc]] x fun e x' => ∃ u', e = .returned (.agg #[.string s, u']) ∧ Own x' x.heap.size u' zs ∧ Below x.heap.size x x') := Lib.hid fun x h => toPhrase_any s _ zs _ hz20 (huW.later h).rd
      have hmn := markN_nonneg 1 ps
      have hmq := markN_nonneg 1 qs
      clear hcb hqs
      have hBD := (Below.refl w2.heap.size w2).drew
      have hBDA : Below w2.heap.size w2 (w2.alloc (.cells #[.slice none 0 0] 25)).drew := ((Below.refl w2.heap.size w2).alloc (Nat.le_refl _) (.cells #[.slice none 0 0] 25)).drew
      have hDs : W.heap.size ≤ w2.heap.size := hb2.size
      have HTBD : Hid (∀ x : World, Below w2.heap.size w2 x → Calls Try.prog 28 #[.agg #[.slice a ps.length cap]] x fun e x' => ∃ v', e = .returned (.agg #[v']) ∧ OwnPs x' x.heap.size v' ps ∧ Below x.heap.size x x') := Lib.hid fun x h => HTB.out x (hb2.trans (h.mono hDs))
      have HTPD : Hid (∀ x : World, Below w2.heap.size w2 x → Calls Try.prog 44 #[.agg #[.string s, .slice ua zs.length uc]] x fun e x' => ∃ u', e = .returned (.agg #[.string s, u']) ∧ Own x' x.heap.size u' zs ∧ Below x.heap.size x x') := Lib.hid fun x h => HTP.out x (hb2.trans (h.mono hDs))
      have KS : Hid (∀ y : World, Below w2.heap.size w2 y → y.cell? ⟨w.heap.size, 0, none⟩ = some (.slice a ps.length cap) ∧ y.cell? ⟨w.heap.size + 1, 0, none⟩ = some (.string s) ∧ y.cell? ⟨w.heap.size + 1, 1, none⟩ = some (.slice ua zs.length uc)) := Lib.hid fun y h => HK.out _ (hb2.trans (h.mono hDs))
      have KS2 : Hid (∀ (y : World) (b : Nat) (q : Value), w2.heap.size ≤ b → Below w2.heap.size w2 y → (y.setCell ⟨b, 0, none⟩ q).cell? ⟨w.heap.size, 0, none⟩ = some (.slice a ps.length cap) ∧ (y.setCell ⟨b, 0, none⟩ q).cell? ⟨w.heap.size + 1, 0, none⟩ = some (.string s) ∧ (y.setCell ⟨b, 0, none⟩ q).cell? ⟨w.heap.size + 1, 1, none⟩ = some (.slice ua zs.length uc)) := Lib.hid fun y b q hb h => by
        rw [setc_far (by omega), setc_far (by omega), setc_far (by omega)]
        exact KS.out _ h
      obtain ⟨k0, k1, k2⟩ := HK.out _ hb2
      go_upto_region 8 with fail
      go_cut [6, 7] (fun sb sx wx => ∃ (b6 B6 : Nat) (v6 : Value), sb = .pointer (some ⟨b6, 0, none⟩) ∧ sx = .bool cb ∧ w2.heap.size ≤ b6 ∧ b6 < wx.heap.size ∧ wx.cell? ⟨b6, 0, none⟩ = some v6 ∧ Below w2.heap.size w2 wx ∧ OwnPs wx B6 v6 qs)
      case first =>
        go_region_held3 (fun w' => w'.cell? ⟨w.heap.size, 0, none⟩ = some (.slice a ps.length cap) ∧ w'.cell? ⟨w.heap.size + 1, 0, none⟩ = some (.string s) ∧ w'.cell? ⟨w.heap.size + 1, 1, none⟩ = some (.slice ua zs.length uc))
          (first | go_keep | exact KS.out _ hBa | exact KS.out _ hBb | exact KS.out _ hB3 | exact KS.out _ (hB3.alloc hB3.size _) | exact KS.out _ (hBa.alloc hBa.size _) | exact KS.out _ (hBb.alloc hBb.size _) | exact KS.out _ hBDA | exact KS2.out _ _ _ hBb.size hB3 | exact KS2.out _ _ _ hBa.size hB3 | exact KS2.out _ _ _ (Nat.le_refl _) hB3)
          (first | (go_at_call 28; refine (HTBD.out _ hBD).mono ?_; rintro e wa ⟨va, rfl, hoa, hba⟩; have hBa := (hBD).trans (hba.mono (hBD).size)) | (go_at_call 28; refine (HTBD.out _ hBDA).mono ?_; rintro e wa ⟨va, rfl, hoa, hba⟩; have hBa := (hBDA).trans (hba.mono (hBDA).size); have jca := hba.cell (p := ⟨w2.heap.size, 0, none⟩) (by simp); have jfa := hba.frozen (p := ⟨w2.heap.size, 0, none⟩) (by simp); have jza := hba.size; simp [go_sem] at jca jfa jza) | (go_at_call 44; refine (HTPD.out _ hBD).mono ?_; rintro e wb ⟨ub, rfl, hob, hbb⟩; have hBb := (hBD).trans (hbb.mono (hBD).size)) | (go_at_call 44; refine (HTPD.out _ hBDA).mono ?_; rintro e wb ⟨ub, rfl, hob, hbb⟩; have hBb := (hBDA).trans (hbb.mono (hBDA).size); have jcb := hbb.cell (p := ⟨w2.heap.size, 0, none⟩) (by simp); have jfb := hbb.frozen (p := ⟨w2.heap.size, 0, none⟩) (by simp); have jzb := hbb.size; simp [go_sem] at jcb jfb jzb) | (go_at_call 28; refine (HTBD.out _ hBb).mono ?_; rintro e wa ⟨va, rfl, hoa, hba⟩; have hBa := (hBb).trans (hba.mono (hBb).size); have hab := hba; (try (have jca := jcell jcb hba jzb; have jfa := jfroz jfb hba jzb; have jza := jsize jcb hba jzb))) | (go_at_call 28; refine (HTBD.out _ (hBb.alloc hBb.size (.cells #[.slice none 0 0] 25))).mono ?_; rintro e wa ⟨va, rfl, hoa, hba⟩; have hBa := ((hBb.alloc hBb.size (.cells #[.slice none 0 0] 25))).trans (hba.mono ((hBb.alloc hBb.size (.cells #[.slice none 0 0] 25))).size); have hab := ((Below.refl wb.heap.size wb).alloc (Nat.le_refl _) _).trans (hba.mono (by simp)); have jca := hba.cell (p := ⟨wb.heap.size, 0, none⟩) (by simp); have jfa := hba.frozen (p := ⟨wb.heap.size, 0, none⟩) (by simp); have jza := hba.size; simp [go_sem] at jca jfa jza) | (go_at_call 44; refine (HTPD.out _ hBa).mono ?_; rintro e wb ⟨ub, rfl, hob, hbb⟩; have hBb := (hBa).trans (hbb.mono (hBa).size); have hab := hbb; (try (have jcb := jcell jca hbb jza; have jfb := jfroz jfa hbb jza; have jzb := jsize jca hbb jza))) | (go_at_call 44; refine (HTPD.out _ (hBa.alloc hBa.size (.cells #[.slice none 0 0] 25))).mono ?_; rintro e wb ⟨ub, rfl, hob, hbb⟩; have hBb := ((hBa.alloc hBa.size (.cells #[.slice none 0 0] 25))).trans (hbb.mono ((hBa.alloc hBa.size (.cells #[.slice none 0 0] 25))).size); have hab := ((Below.refl wa.heap.size wa).alloc (Nat.le_refl _) _).trans (hbb.mono (by simp)); have jcb := hbb.cell (p := ⟨wa.heap.size, 0, none⟩) (by simp); have jfb := hbb.frozen (p := ⟨wa.heap.size, 0, none⟩) (by simp); have jzb := hbb.size; simp [go_sem] at jcb jfb jzb) | (go_at_call 43; refine (HSP.out _ _ _ (hoa.rd.later hab) hob.rdc).mono ?_; rintro e w3 ⟨v3, rfl, ho3, hb3⟩; have hB3 := (hBb).trans (hb3.mono (hBb).size); obtain ⟨a3, cap3, rfl, -⟩ := ho3.rd.len; (try (have jc3 := jcell jcb hb3 jzb; have jf3 := jfroz jfb hb3 jzb; have jz3 := jsize jcb hb3 jzb))) | (go_at_call 43; refine (HSP.out _ _ _ ((hoa.rd.later hab).later ((Below.refl wb.heap.size wb).alloc (Nat.le_refl _) (.cells #[.slice none 0 0] 25))) (hob.rdc.later ((Below.refl wb.heap.size wb).alloc (Nat.le_refl _) (.cells #[.slice none 0 0] 25)))).mono ?_; rintro e w3 ⟨v3, rfl, ho3, hb3⟩; have hB3 := (hBb.alloc hBb.size (.cells #[.slice none 0 0] 25)).trans (hb3.mono (hBb.alloc hBb.size (.cells #[.slice none 0 0] 25)).size); obtain ⟨a3, cap3, rfl, -⟩ := ho3.rd.len; have jc3 := hb3.cell (p := ⟨wb.heap.size, 0, none⟩) (by simp); have jf3 := hb3.frozen (p := ⟨wb.heap.size, 0, none⟩) (by simp); have jz3 := hb3.size; simp [go_sem] at jc3 jf3 jz3) | (go_at_call 43; refine (HSP.out _ _ _ hoa.rd (hob.rdc.later hab)).mono ?_; rintro e w3 ⟨v3, rfl, ho3, hb3⟩; have hB3 := (hBa).trans (hb3.mono (hBa).size); obtain ⟨a3, cap3, rfl, -⟩ := ho3.rd.len; (try (have jc3 := jcell jca hb3 jza; have jf3 := jfroz jfa hb3 jza; have jz3 := jsize jca hb3 jza))) | (go_at_call 43; refine (HSP.out _ _ _ (hoa.rd.later ((Below.refl wa.heap.size wa).alloc (Nat.le_refl _) (.cells #[.slice none 0 0] 25))) ((hob.rdc.later hab).later ((Below.refl wa.heap.size wa).alloc (Nat.le_refl _) (.cells #[.slice none 0 0] 25)))).mono ?_; rintro e w3 ⟨v3, rfl, ho3, hb3⟩; have hB3 := (hBa.alloc hBa.size (.cells #[.slice none 0 0] 25)).trans (hb3.mono (hBa.alloc hBa.size (.cells #[.slice none 0 0] 25)).size); obtain ⟨a3, cap3, rfl, -⟩ := ho3.rd.len; have jc3 := hb3.cell (p := ⟨wa.heap.size, 0, none⟩) (by simp); have jf3 := hb3.frozen (p := ⟨wa.heap.size, 0, none⟩) (by simp); have jz3 := hb3.size; simp [go_sem] at jc3 jf3 jz3))
        · go_wp2_with fail
          go_meet
          exact ⟨w3.heap.size, _, _, rfl, rfl, hB3.size, by simp, by simp [go_sem], hB3.alloc hB3.size _, ho3.later ((Below.refl _ _).alloc (Nat.le_refl _) _)⟩
        · go_wp2_with fail
          go_meet
          exact ⟨wb.heap.size, _, _, rfl, rfl, hBb.size, by have := jz3; simp; omega, setc_same jc3, hB3.setCell (p := ⟨wb.heap.size, 0, none⟩) hBb.size _, ho3.setLow (by simp)⟩
        · go_wp2_with fail
          go_meet
          exact ⟨wa.heap.size, _, _, rfl, rfl, hBa.size, by have := jz3; simp; omega, setc_same jc3, hB3.setCell (p := ⟨wa.heap.size, 0, none⟩) hBa.size _, ho3.setLow jzb⟩
        · go_wp2_with fail
          go_meet
          exact ⟨w2.heap.size, _, _, rfl, rfl, Nat.le_refl _, by have := jz3; simp; omega, setc_same jc3, hB3.setCell (p := ⟨w2.heap.size, 0, none⟩) (Nat.le_refl _) _, ho3.setLow jzb⟩
      case rest =>
        obtain ⟨b6, B6, v6, rfl, rfl, hb6, hb6l, hc6, hBx, ho6⟩ := hcut
        clear k0 k1 k2 KS KS2 hBD hBDA HTBD HTPD
        obtain ⟨u6, hu6⟩ := ho6.u
        obtain ⟨a6, cap6, rfl, -⟩ := ho6.rd.len
        have hBc := hb2.trans (hBx.mono hb2.size)
        have hb2s := hBx.size
        obtain ⟨k0, k1, k2⟩ := HK.out _ hBc
        go_wp2_with fail
        refine (HTB.out _ hBc).mono ?_
        rintro e w4 ⟨v4, rfl, ho4, hb4⟩
        obtain ⟨us, hu4⟩ := ho4.u
        obtain ⟨aX, capX, rfl, -⟩ := ho4.rd.len
        have s4 := hb4.size
        have hb8 := (Below.refl w4.heap.size w4).alloc (Nat.le_refl _) (.cells #[.slice aX ps.length capX] 25)
        have hc8 := hb4.trans (hb8.mono s4)
        have hB8 := hBc.trans (hc8.mono hBc.size)
        have s8 : (w4.alloc (.cells #[.slice aX ps.length capX] 25)).heap.size = w4.heap.size + 1 := by simp
        have y8 : (w4.alloc (.cells #[.slice aX ps.length capX] 25)).cell? ⟨w4.heap.size, 0, none⟩ = some (.slice aX ps.length capX) := by simp [go_sem]
        have rX := ho4.rd.later hb8
        clear k0 k1 k2
        obtain ⟨k0, k1, k2⟩ := HK.out _ hB8
        go_wp2_with fail
        generalize w4.alloc (.cells #[.slice aX ps.length capX] 25) = W8 at *
        refine (HTP.out _ hB8).mono ?_
        rintro e w5 ⟨u5, rfl, ho5, hb5⟩
        have hlt5 := ho5.lt
        obtain ⟨aU, cU, rfl⟩ := ho5.rd.len
        have s5 := hb5.size
        have hb9 := (Below.refl w5.heap.size w5).alloc (Nat.le_refl _) (.cells #[.string s, .slice aU zs.length cU] 33)
        have hc9 := hb5.trans (hb9.mono s5)
        have hB9 := hB8.trans (hc9.mono hB8.size)
        have s9 : (w5.alloc (.cells #[.string s, .slice aU zs.length cU] 33)).heap.size = w5.heap.size + 1 := by simp
        have y9 := jcell y8 hc9 (by omega)
        have x90 : (w5.alloc (.cells #[.string s, .slice aU zs.length cU] 33)).cell? ⟨w5.heap.size, 0, none⟩ = some (.string s) := by simp [go_sem]
        have x91 : (w5.alloc (.cells #[.string s, .slice aU zs.length cU] 33)).cell? ⟨w5.heap.size, 1, none⟩ = some (.slice aU zs.length cU) := by simp [go_sem]
        have rX9 := rX.later hc9
        have ru9 := ho5.rdc.later hb9
        clear k0 k1 k2 y8
        go_wp2_with fail
        generalize w5.alloc (.cells #[.string s, .slice aU zs.length cU] 33) = W9 at *
        refine (HIM.out _ _ _ rX9 ru9).mono ?_
        rintro e w6 ⟨v7, rfl, ho7, hb7⟩
        obtain ⟨ug, hu7⟩ := ho7.u
        obtain ⟨a7, cap7, rfl, -⟩ := ho7.rd.len
        have s7 := hb7.size
        have hbg := (Below.refl w6.heap.size w6).alloc (Nat.le_refl _) (.cells #[.slice a7 qs.length cap7] 25)
        have hcg := hb7.trans (hbg.mono s7)
        have hBg := hB9.trans (hcg.mono hB9.size)
        have sg : (w6.alloc (.cells #[.slice a7 qs.length cap7] 25)).heap.size = w6.heap.size + 1 := by simp
        have hcx : Below wc.heap.size wc (w6.alloc (.cells #[.slice a7 qs.length cap7] 25)) := hc8.trans ((hc9.trans (hcg.mono (by omega))).mono (by omega))
        have g3 := jcell hc6 hcx hb6l
        have g4 := jcell y9 hcg (by omega)
        have g5 := jcell x90 hcg (by omega)
        have g6 : (w6.alloc (.cells #[.slice a7 qs.length cap7] 25)).cell? ⟨w5.heap.size, 1, none⟩ = some (.slice aU zs.length cU) := (hcg.cell (p := ⟨w5.heap.size, 1, none⟩) (by show w5.heap.size < W9.heap.size; omega)).trans x91
        have g7 : (w6.alloc (.cells #[.slice a7 qs.length cap7] 25)).cell? ⟨w6.heap.size, 0, none⟩ = some (.slice a7 qs.length cap7) := by simp [go_sem]
        have h6g := ho6.rd.later hcx
        have rXg := rX9.later hcg
        have rug := ru9.later hcg
        have h7g := ho7.rd.later hbg
        have hu4g := hu4.later (hb8.trans ((hc9.trans (hcg.mono (by omega))).mono (by omega)))
        have ho5g := ho5.later (hb9.trans (hcg.mono (by omega)))
        have hu7g := hu7.later hbg
        clear y9 x90 x91 hc6
        go_wp2_with fail
        generalize w6.alloc (.cells #[.slice a7 qs.length cap7] 25) = Wg at *
        have HF : Hid (∀ y, Ex [w.heap.size, w.heap.size + 1, b6, w4.heap.size, w5.heap.size, w6.heap.size] Wg y → y.cell? ⟨w.heap.size, 0, none⟩ = some (.slice a ps.length cap) ∧ y.cell? ⟨w.heap.size + 1, 0, none⟩ = some (.string s) ∧ y.cell? ⟨w.heap.size + 1, 1, none⟩ = some (.slice ua zs.length uc) ∧ y.cell? ⟨b6, 0, none⟩ = some (.slice a6 qs.length cap6) ∧ y.cell? ⟨w4.heap.size, 0, none⟩ = some (.slice aX ps.length capX) ∧ y.cell? ⟨w5.heap.size, 0, none⟩ = some (.string s) ∧ y.cell? ⟨w5.heap.size, 1, none⟩ = some (.slice aU zs.length cU) ∧ y.cell? ⟨w6.heap.size, 0, none⟩ = some (.slice a7 qs.length cap7)) := Lib.hid fun y h =>
          have hg := HK.out _ hBg
          ⟨h.cell hg.1 (by simp), h.cell hg.2.1 (by simp), h.cell hg.2.2 (by simp), h.cell g3 (by simp), h.cell g4 (by simp), h.cell g5 (by simp), h.cell g6 (by simp), h.cell g7 (by simp)⟩
        have HLT : Hid (∀ k, k ∈ [w.heap.size, w.heap.size + 1, b6, w4.heap.size, w5.heap.size, w6.heap.size] → k < Wg.heap.size ∧ (k < wc.heap.size ∨ w4.heap.size ≤ k) ∧ (k < W8.heap.size ∨ w5.heap.size ≤ k) ∧ (k < W9.heap.size ∨ w6.heap.size ≤ k)) := Lib.hid (by intro k hk; simp at hk; omega)
        clear g3 g4 g5 g6 g7
        refine (eqBook_true _ _ qs _ h7g h6g).mono ?_
        rintro e wE ⟨rfl, hbE⟩
        have sE := hbE.size
        have EE := Ex.below (fun _ _ => rfl : Ex [w.heap.size, w.heap.size + 1, b6, w4.heap.size, w5.heap.size, w6.heap.size] Wg Wg) hbE (fun k hk => (HLT.out k hk).1)
        obtain ⟨k0, k1, k2, k3, k4, k5, k6, k7⟩ := HF.out _ EE
        go_wp2
        have hBE := hBg.trans (hbE.mono hBg.size)
        have hDE := hBE.drew
        have hEd := (Below.refl wE.heap.size wE).drew
        have K14 : Hid (∀ y, Below wE.drew.heap.size wE.drew y → y.cell? ⟨w.heap.size, 0, none⟩ = some (.slice a ps.length cap) ∧ y.cell? ⟨w4.heap.size, 0, none⟩ = some (.slice aX ps.length capX)) := Lib.hid fun y h =>
          have q := HF.out _ (EE.below (hEd.trans (h.mono (Nat.le_refl _))) (fun k hk => by have := (HLT.out k hk).1; omega))
          ⟨q.1, q.2.2.2.2.1⟩
        have rXE := (rXg.later hbE).later hEd
        go_region_held3 (fun w' => w'.cell? ⟨w.heap.size, 0, none⟩ = some (.slice a ps.length cap) ∧ w'.cell? ⟨w4.heap.size, 0, none⟩ = some (.slice aX ps.length capX))
          (first | go_keep | exact K14.out _ hbY | exact K14.out _ hbZ)
          (first | (go_at_call 28; refine (HTB.out _ hDE).mono ?_; rintro e wY ⟨vY, rfl, hoY, hbY⟩) | (go_at_call 30; refine (eqBook_true _ _ ps _ (rXE.later hbY) hoY.rd).mono ?_; rintro e wZ ⟨rfl, hbZ'⟩; have hbZ := hbY.trans (hbZ'.mono hbY.size)))
        have hEZ := hEd.trans (hbZ.mono (Nat.le_refl _))
        have sZ := hEZ.size
        have EZ := EE.below hEZ (fun k hk => by have := (HLT.out k hk).1; omega)
        have hBZ := hBE.trans (hEZ.mono hBE.size)
        clear K14 k0 k1 k2 k3 k4 k5 k6 k7
        obtain ⟨k0, k1, k2, k3, k4, k5, k6, k7⟩ := HF.out _ EZ
        go_wp2
        have hDZ := hBZ.drew
        have hZd := (Below.refl wZ.heap.size wZ).drew
        have K16 : Hid (∀ y, Below wZ.drew.heap.size wZ.drew y → y.cell? ⟨w.heap.size + 1, 0, none⟩ = some (.string s) ∧ y.cell? ⟨w.heap.size + 1, 1, none⟩ = some (.slice ua zs.length uc) ∧ y.cell? ⟨w5.heap.size, 0, none⟩ = some (.string s) ∧ y.cell? ⟨w5.heap.size, 1, none⟩ = some (.slice aU zs.length cU)) := Lib.hid fun y h =>
          have q := HF.out _ (EZ.below (hZd.trans (h.mono (Nat.le_refl _))) (fun k hk => by have := (HLT.out k hk).1; omega))
          ⟨q.2.1, q.2.2.1, q.2.2.2.2.2.1, q.2.2.2.2.2.2.1⟩
        have ruZ := ((rug.later hbE).later hEZ).later hZd
        go_region_held3 (fun w' => w'.cell? ⟨w.heap.size + 1, 0, none⟩ = some (.string s) ∧ w'.cell? ⟨w.heap.size + 1, 1, none⟩ = some (.slice ua zs.length uc) ∧ w'.cell? ⟨w5.heap.size, 0, none⟩ = some (.string s) ∧ w'.cell? ⟨w5.heap.size, 1, none⟩ = some (.slice aU zs.length cU))
          (first | go_keep | exact K16.out _ hbU | exact K16.out _ hbP)
          (first | (go_at_call 44; refine (HTP.out _ hDZ).mono ?_; rintro e wU ⟨uU, rfl, hoU, hbU⟩) | (go_at_call 46; refine (eqPhrase_true s _ _ zs _ (ruZ.later hbU).rd hoU.rd).mono ?_; rintro e wP ⟨rfl, hbP'⟩; have hbP := hbU.trans (hbP'.mono hbU.size)))
        have hZP := hZd.trans (hbP.mono (Nat.le_refl _))
        have sP := hZP.size
        have EP := EZ.below hZP (fun k hk => by have := (HLT.out k hk).1; omega)
        have hgP := hbE.trans ((hEZ.trans (hZP.mono sZ)).mono sE)
        have hBP := hBg.trans (hgP.mono hBg.size)
        have hcP := hcx.trans (hgP.mono (by omega))
        clear K16 k0 k1 k2 k3 k4 k5 k6 k7
        obtain ⟨k0, k1, k2, k3, k4, k5, k6, k7⟩ := HF.out _ EP
        go_wp2_with fail
        refine (markBook_any wc.heap.size w4.heap.size _ ps us 1 _ (by omega) (by omega) hsm (hu4g.later hgP)).mono ?_
        rintro e wM ⟨rfl, huM, hkM⟩
        have EM := EP.kept hkM (fun k hk => ⟨by have := (HLT.out k hk).1; omega, (HLT.out k hk).2.1⟩)
        have sM := hkM.size
        have hkMb := hkM.below (by omega)
        have hoM := hkM.own (ho5g.later hgP) (by omega)
        have huM7 : OwnU wM W9.heap.size w6.heap.size _ qs ug := (hu7g.later hgP).same fun k hk hl => hkM.block k hl (.inr (by omega))
        have hmb : markN 1 ps ≤ 1099511627776 * 2 := by
          have h := (markN_bd hsm 1 ps.length (Nat.le_refl _)).2
          rw [List.take_length] at h
          have := hsm.1
          omega
        clear k0 k1 k2 k3 k4 k5 k6 k7
        obtain ⟨k0, k1, k2, k3, k4, k5, k6, k7⟩ := HF.out _ EM
        go_wp2_with fail
        refine (markPhrase_any W8.heap.size s _ zs _ _ hmn (by omega) (by omega) hoM).mono ?_
        rintro e wN ⟨rfl, oN, hgN⟩
        have hkN : KeptBC W8.heap.size w5.heap.size wM wN := (KeptBC.of_below ((Below.refl wM.heap.size wM).alloc (Nat.le_refl _) oN)).trans (KeptBC.of_grown hgN (fun k hk => hlt5 k hk))
        have sN := hkN.size
        have EN := EM.kept hkN (fun k hk => ⟨by have := (HLT.out k hk).1; omega, (HLT.out k hk).2.2.1⟩)
        have hkNb := hkN.below (by omega)
        have huN7 : OwnU wN W9.heap.size w6.heap.size _ qs ug := huM7.same fun k hk hl => hkN.block k hl (.inr (by omega))
        have hcN := (hcP.trans hkMb).trans (hkNb.mono (by omega))
        have hBN := (hBP.trans (hkMb.mono (by omega))).trans (hkNb.mono (by omega))
        have hnn : ¬ ((markN 1 ps : Int) + (zs.length : Int) < 0) := by omega
        clear k0 k1 k2 k3 k4 k5 k6 k7
        obtain ⟨k0, k1, k2, k3, k4, k5, k6, k7⟩ := HF.out _ EN
        go_wp2_with fail
        refine (eqBook_true _ _ qs _ huN7.ps.rd (hu6.low hcN).ps.rd).mono ?_
        rintro e wQ ⟨rfl, hbQ⟩
        have sQ := hbQ.size
        have EQ := EN.below hbQ (fun k hk => by have := (HLT.out k hk).1; omega)
        have hcQ := hcN.trans (hbQ.mono (by omega))
        have hBQ := hBN.trans (hbQ.mono (by omega))
        have huQ7 := huN7.later hbQ
        clear k0 k1 k2 k3 k4 k5 k6 k7
        obtain ⟨k0, k1, k2, k3, k4, k5, k6, k7⟩ := HF.out _ EQ
        go_wp2_with fail
        refine (markBook_any W9.heap.size w6.heap.size _ qs ug 1 _ (by omega) (by omega) hsq huQ7).mono ?_
        rintro e wR ⟨rfl, huR, hkR⟩
        have sR := hkR.size
        have ER := EQ.kept hkR (fun k hk => ⟨by have := (HLT.out k hk).1; omega, (HLT.out k hk).2.2.2⟩)
        have hkRb := hkR.below (by omega)
        have hcR := hcQ.trans (hkRb.mono (by omega))
        have hBR := hBQ.trans (hkRb.mono (by omega))
        clear k0 k1 k2 k3 k4 k5 k6 k7
        obtain ⟨k0, k1, k2, k3, k4, k5, k6, k7⟩ := HF.out _ ER
        go_wp2_with fail
        refine (heldBook_any _ qs 1 _ (by omega) (by omega) hsq huR.ps.rd).mono ?_
        rintro e wH ⟨rfl, hbH⟩
        have sH := hbH.size
        have EH := ER.below hbH (fun k hk => by have := (HLT.out k hk).1; omega)
        have hcH := hcR.trans (hbH.mono (by omega))
        have hBH := hBR.trans (hbH.mono (by omega))
        have huH7 := huR.later hbH
        clear k0 k1 k2 k3 k4 k5 k6 k7
        obtain ⟨k0, k1, k2, k3, k4, k5, k6, k7⟩ := HF.out _ EH
        have hBD := (Below.refl wH.heap.size wH).drew
        have hBDA : Below wH.heap.size wH (wH.alloc (.cells #[.slice none 0 0] 25)).drew := ((Below.refl wH.heap.size wH).alloc (Nat.le_refl _) (.cells #[.slice none 0 0] 25)).drew
        have hDs : W.heap.size ≤ wH.heap.size := hBH.size
        have HTBD : Hid (∀ x : World, Below wH.heap.size wH x → Calls Try.prog 28 #[.agg #[.slice a ps.length cap]] x fun e x' => ∃ v', e = .returned (.agg #[v']) ∧ OwnPs x' x.heap.size v' ps ∧ Below x.heap.size x x') := Lib.hid fun x h => HTB.out x (hBH.trans (h.mono hDs))
        have HTPD : Hid (∀ x : World, Below wH.heap.size wH x → Calls Try.prog 44 #[.agg #[.string s, .slice ua zs.length uc]] x fun e x' => ∃ u', e = .returned (.agg #[.string s, u']) ∧ Own x' x.heap.size u' zs ∧ Below x.heap.size x x') := Lib.hid fun x h => HTP.out x (hBH.trans (h.mono hDs))
        have KS : Hid (∀ y : World, Below wH.heap.size wH y → y.cell? ⟨w.heap.size, 0, none⟩ = some (.slice a ps.length cap) ∧ y.cell? ⟨w.heap.size + 1, 0, none⟩ = some (.string s) ∧ y.cell? ⟨w.heap.size + 1, 1, none⟩ = some (.slice ua zs.length uc)) := Lib.hid fun y h => HK.out _ (hBH.trans (h.mono hDs))
        have KS2 : Hid (∀ (y : World) (b : Nat) (q : Value), wH.heap.size ≤ b → Below wH.heap.size wH y → (y.setCell ⟨b, 0, none⟩ q).cell? ⟨w.heap.size, 0, none⟩ = some (.slice a ps.length cap) ∧ (y.setCell ⟨b, 0, none⟩ q).cell? ⟨w.heap.size + 1, 0, none⟩ = some (.string s) ∧ (y.setCell ⟨b, 0, none⟩ q).cell? ⟨w.heap.size + 1, 1, none⟩ = some (.slice ua zs.length uc)) := Lib.hid fun y b q hb h => by
          rw [setc_far (by omega), setc_far (by omega), setc_far (by omega)]
          exact KS.out _ h
        go_upto_region 31 with fail
        go_cut [15, 16] (fun sb sx wx => ∃ (bF B6 : Nat) (v6 : Value), sb = .pointer (some ⟨bF, 0, none⟩) ∧ sx = .bool cb ∧ wH.heap.size ≤ bF ∧ bF < wx.heap.size ∧ wx.cell? ⟨bF, 0, none⟩ = some v6 ∧ Below wH.heap.size wH wx ∧ OwnPs wx B6 v6 qs)
        case first =>
          go_region_held3 (fun w' => w'.cell? ⟨w.heap.size, 0, none⟩ = some (.slice a ps.length cap) ∧ w'.cell? ⟨w.heap.size + 1, 0, none⟩ = some (.string s) ∧ w'.cell? ⟨w.heap.size + 1, 1, none⟩ = some (.slice ua zs.length uc))
            (first | go_keep | exact KS.out _ hBa | exact KS.out _ hBb | exact KS.out _ hB3 | exact KS.out _ (hB3.alloc hB3.size _) | exact KS.out _ (hBa.alloc hBa.size _) | exact KS.out _ (hBb.alloc hBb.size _) | exact KS.out _ hBDA | exact KS2.out _ _ _ hBb.size hB3 | exact KS2.out _ _ _ hBa.size hB3 | exact KS2.out _ _ _ (Nat.le_refl _) hB3)
            (first | (go_at_call 28; refine (HTBD.out _ hBD).mono ?_; rintro e wa ⟨va, rfl, hoa, hba⟩; have hBa := (hBD).trans (hba.mono (hBD).size)) | (go_at_call 28; refine (HTBD.out _ hBDA).mono ?_; rintro e wa ⟨va, rfl, hoa, hba⟩; have hBa := (hBDA).trans (hba.mono (hBDA).size); have jca := hba.cell (p := ⟨wH.heap.size, 0, none⟩) (by simp); have jfa := hba.frozen (p := ⟨wH.heap.size, 0, none⟩) (by simp); have jza := hba.size; simp [go_sem] at jca jfa jza) | (go_at_call 44; refine (HTPD.out _ hBD).mono ?_; rintro e wb ⟨ub, rfl, hob, hbb⟩; have hBb := (hBD).trans (hbb.mono (hBD).size)) | (go_at_call 44; refine (HTPD.out _ hBDA).mono ?_; rintro e wb ⟨ub, rfl, hob, hbb⟩; have hBb := (hBDA).trans (hbb.mono (hBDA).size); have jcb := hbb.cell (p := ⟨wH.heap.size, 0, none⟩) (by simp); have jfb := hbb.frozen (p := ⟨wH.heap.size, 0, none⟩) (by simp); have jzb := hbb.size; simp [go_sem] at jcb jfb jzb) | (go_at_call 28; refine (HTBD.out _ hBb).mono ?_; rintro e wa ⟨va, rfl, hoa, hba⟩; have hBa := (hBb).trans (hba.mono (hBb).size); have hab := hba; (try (have jca := jcell jcb hba jzb; have jfa := jfroz jfb hba jzb; have jza := jsize jcb hba jzb))) | (go_at_call 28; refine (HTBD.out _ (hBb.alloc hBb.size (.cells #[.slice none 0 0] 25))).mono ?_; rintro e wa ⟨va, rfl, hoa, hba⟩; have hBa := ((hBb.alloc hBb.size (.cells #[.slice none 0 0] 25))).trans (hba.mono ((hBb.alloc hBb.size (.cells #[.slice none 0 0] 25))).size); have hab := ((Below.refl wb.heap.size wb).alloc (Nat.le_refl _) _).trans (hba.mono (by simp)); have jca := hba.cell (p := ⟨wb.heap.size, 0, none⟩) (by simp); have jfa := hba.frozen (p := ⟨wb.heap.size, 0, none⟩) (by simp); have jza := hba.size; simp [go_sem] at jca jfa jza) | (go_at_call 44; refine (HTPD.out _ hBa).mono ?_; rintro e wb ⟨ub, rfl, hob, hbb⟩; have hBb := (hBa).trans (hbb.mono (hBa).size); have hab := hbb; (try (have jcb := jcell jca hbb jza; have jfb := jfroz jfa hbb jza; have jzb := jsize jca hbb jza))) | (go_at_call 44; refine (HTPD.out _ (hBa.alloc hBa.size (.cells #[.slice none 0 0] 25))).mono ?_; rintro e wb ⟨ub, rfl, hob, hbb⟩; have hBb := ((hBa.alloc hBa.size (.cells #[.slice none 0 0] 25))).trans (hbb.mono ((hBa.alloc hBa.size (.cells #[.slice none 0 0] 25))).size); have hab := ((Below.refl wa.heap.size wa).alloc (Nat.le_refl _) _).trans (hbb.mono (by simp)); have jcb := hbb.cell (p := ⟨wa.heap.size, 0, none⟩) (by simp); have jfb := hbb.frozen (p := ⟨wa.heap.size, 0, none⟩) (by simp); have jzb := hbb.size; simp [go_sem] at jcb jfb jzb) | (go_at_call 45; refine (HIM.out _ _ _ (hoa.rd.later hab) hob.rdc).mono ?_; rintro e w3 ⟨v3, rfl, ho3, hb3⟩; have hB3 := (hBb).trans (hb3.mono (hBb).size); obtain ⟨a3, cap3, rfl, -⟩ := ho3.rd.len; (try (have jc3 := jcell jcb hb3 jzb; have jf3 := jfroz jfb hb3 jzb; have jz3 := jsize jcb hb3 jzb))) | (go_at_call 45; refine (HIM.out _ _ _ ((hoa.rd.later hab).later ((Below.refl wb.heap.size wb).alloc (Nat.le_refl _) (.cells #[.slice none 0 0] 25))) (hob.rdc.later ((Below.refl wb.heap.size wb).alloc (Nat.le_refl _) (.cells #[.slice none 0 0] 25)))).mono ?_; rintro e w3 ⟨v3, rfl, ho3, hb3⟩; have hB3 := (hBb.alloc hBb.size (.cells #[.slice none 0 0] 25)).trans (hb3.mono (hBb.alloc hBb.size (.cells #[.slice none 0 0] 25)).size); obtain ⟨a3, cap3, rfl, -⟩ := ho3.rd.len; have jc3 := hb3.cell (p := ⟨wb.heap.size, 0, none⟩) (by simp); have jf3 := hb3.frozen (p := ⟨wb.heap.size, 0, none⟩) (by simp); have jz3 := hb3.size; simp [go_sem] at jc3 jf3 jz3) | (go_at_call 45; refine (HIM.out _ _ _ hoa.rd (hob.rdc.later hab)).mono ?_; rintro e w3 ⟨v3, rfl, ho3, hb3⟩; have hB3 := (hBa).trans (hb3.mono (hBa).size); obtain ⟨a3, cap3, rfl, -⟩ := ho3.rd.len; (try (have jc3 := jcell jca hb3 jza; have jf3 := jfroz jfa hb3 jza; have jz3 := jsize jca hb3 jza))) | (go_at_call 45; refine (HIM.out _ _ _ (hoa.rd.later ((Below.refl wa.heap.size wa).alloc (Nat.le_refl _) (.cells #[.slice none 0 0] 25))) ((hob.rdc.later hab).later ((Below.refl wa.heap.size wa).alloc (Nat.le_refl _) (.cells #[.slice none 0 0] 25)))).mono ?_; rintro e w3 ⟨v3, rfl, ho3, hb3⟩; have hB3 := (hBa.alloc hBa.size (.cells #[.slice none 0 0] 25)).trans (hb3.mono (hBa.alloc hBa.size (.cells #[.slice none 0 0] 25)).size); obtain ⟨a3, cap3, rfl, -⟩ := ho3.rd.len; have jc3 := hb3.cell (p := ⟨wa.heap.size, 0, none⟩) (by simp); have jf3 := hb3.frozen (p := ⟨wa.heap.size, 0, none⟩) (by simp); have jz3 := hb3.size; simp [go_sem] at jc3 jf3 jz3))
          · go_wp2_with fail
            go_meet
            exact ⟨w3.heap.size, _, _, rfl, rfl, hB3.size, by simp, by simp [go_sem], hB3.alloc hB3.size _, ho3.later ((Below.refl _ _).alloc (Nat.le_refl _) _)⟩
          · go_wp2_with fail
            go_meet
            exact ⟨wb.heap.size, _, _, rfl, rfl, hBb.size, by have := jz3; simp; omega, setc_same jc3, hB3.setCell (p := ⟨wb.heap.size, 0, none⟩) hBb.size _, ho3.setLow (by simp)⟩
          · go_wp2_with fail
            go_meet
            exact ⟨wa.heap.size, _, _, rfl, rfl, hBa.size, by have := jz3; simp; omega, setc_same jc3, hB3.setCell (p := ⟨wa.heap.size, 0, none⟩) hBa.size _, ho3.setLow jzb⟩
          · go_wp2_with fail
            go_meet
            exact ⟨wH.heap.size, _, _, rfl, rfl, Nat.le_refl _, by have := jz3; simp; omega, setc_same jc3, hB3.setCell (p := ⟨wH.heap.size, 0, none⟩) (Nat.le_refl _) _, ho3.setLow jzb⟩
        case rest =>
          obtain ⟨bF, B6, v6, rfl, rfl, hb6, hb6l, hc6, hBx, ho6⟩ := hcut
          have hFx := hBx
          have sF := hFx.size
          have EF := EH.below hFx (fun k hk => by have := (HLT.out k hk).1; omega)
          have hcF := hcH.trans (hFx.mono (by omega))
          have hBF := hBH.trans (hFx.mono (by omega))
          have huF7 := huH7.later hFx
          obtain ⟨aF, capF, rfl, -⟩ := ho6.rd.len
          clear k0 k1 k2 k3 k4 k5 k6 k7
          obtain ⟨k0, k1, k2, k3, k4, k5, k6, k7⟩ := HF.out _ EF
          go_wp2_with fail
          refine (eqBook_true _ _ qs _ ho6.rd (hu6.low hcF).ps.rd).mono ?_
          rintro e wG ⟨rfl, hbG⟩
          have sG := hbG.size
          have EG := EF.below hbG (fun k hk => by have := (HLT.out k hk).1; omega)
          have huG7 := huF7.later hbG
          have hBG := hBF.trans (hbG.mono (by omega))
          clear k0 k1 k2 k3 k4 k5 k6 k7
          obtain ⟨k0, k1, k2, k3, k4, k5, k6, k7⟩ := HF.out _ EG
          go_wp2_with fail
          refine (heldBook_any _ qs 1 _ (by omega) (by omega) hsq huG7.ps.rd).mono ?_
          rintro e wL ⟨rfl, hbL⟩
          go_wp2
          go_ret
          exact ⟨rfl, hbW.trans ((hBG.trans (hbL.mono (by omega))).mono hbW.size)⟩
end Go.Proofs.Ytkknmjioihnpkaa
