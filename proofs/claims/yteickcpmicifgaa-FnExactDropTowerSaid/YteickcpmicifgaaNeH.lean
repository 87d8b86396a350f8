/- Chapter 6: a net copied; a link added, the plain part. Written by a generator of this claim's author. -/
import Derived.Test.YteickcpmicifgaaNeF
import Derived.Test.YteickcpmicifgaaCatTower
import Derived.Test.YteickcpmicifgaaCatLink
import Derived.Test.YteickcpmicifgaaRgn
namespace Go.Proofs.Yteickcpmicifgaa
open Go.RowKit Go.Sort
set_option linter.unusedSimpArgs false
set_option linter.unusedVariables false

def plK (ls : List T3) (x : T3) : Nat := ls.findIdx fun y => !befB y x
theorem plK_le (ls : List T3) (x : T3) : plK ls x ≤ ls.length := List.findIdx_le_length
theorem plK_eq {ls : List T3} {x : T3} {p : Nat} (hp : p ≤ ls.length) (h1 : ∀ m, m < p → befB (rAt ls m) x = true) (h2 : p < ls.length → befB (rAt ls p) x = false) : plK ls x = p := by
  unfold plK
  by_cases hlt : p < ls.length
  · exact findIdx_rAt hlt (by rw [h2 hlt]; rfl) (fun j hj => by rw [h1 j hj]; rfl)
  · obtain rfl : p = ls.length := by omega
    rw [List.findIdx_eq_length]
    intro y hy
    obtain ⟨i, hi, rfl⟩ := mem_rAt hy
    rw [h1 i hi]; rfl
theorem LPlace.plK {ls : List T3} {x : T3} {p : Nat} (h : LPlace ls x p) : plK ls x = p := plK_eq h.le h.bef (fun hp => h.aft p (Nat.le_refl _) hp)
def adL (ls : List T3) (x : T3) : List T3 := ls.take (plK ls x) ++ [x] ++ ls.drop (plK ls x)
theorem adL_len (ls : List T3) (x : T3) : (adL ls x).length = ls.length + 1 := by
  have := plK_le ls x
  unfold adL; simp; omega
def adC (ts ls : List T3) (x : T3) : Bool := netB ts ls && netB ts (adL ls x)
def adT (ts ls : List T3) (x : T3) : List T3 := if adC ts ls x then ts else []
def adR (ts ls : List T3) (x : T3) : List T3 := if adC ts ls x then adL ls x else []
theorem ad_yes {ts ls : List T3} {x : T3} (h : adC ts ls x = true) : adT ts ls x = ts ∧ adR ts ls x = adL ls x := by simp [adT, adR, h]
theorem ad_no {ts ls : List T3} {x : T3} (h : adC ts ls x = false) : adT ts ls x = [] ∧ adR ts ls x = [] := by simp [adT, adR, h]
theorem ad_small (ts ls : List T3) (x : T3) : (adT ts ls x).length ≤ 16 ∧ (adR ts ls x).length ≤ 40 := by
  unfold adT adR
  split
  · rename_i h
    unfold adC at h
    rw [Bool.and_eq_true] at h
    have := netB_iff.1 h.2
    exact ⟨this.t16, this.l40⟩
  · simp

set_option maxRecDepth 100000 in
set_option maxHeartbeats 2000000 in
theorem neOwn_any (c0 c1 : Value) (ts ls : List T3) (w : World) (hr : RdN w c0 c1 ts ls) (h16 : ts.length ≤ 1048576) (h40 : ls.length ≤ 1048576) :
    Calls Try.prog 68 #[.agg #[c0, c1]] w fun e w' => ∃ v0 v1, e = .returned (.agg #[v0, v1]) ∧ OwnN w' w.heap.size w'.heap.size v0 v1 ts ls ∧ Below w.heap.size w w' := by
  obtain ⟨a0, p0, rfl, hp0⟩ := hr.1.len
  obtain ⟨a1, p1, rfl, hp1⟩ := hr.2.len
  obtain ⟨n, hn⟩ : ∃ n, n = ts.length := ⟨_, rfl⟩
  obtain ⟨m, hm⟩ : ∃ m, m = ls.length := ⟨_, rfl⟩
  have HLT : Hid (([] : List T3).length + ts.length ≤ 4194304) := Lib.hid (by simp; omega)
  have HLL : Hid (([] : List T3).length + ls.length ≤ 4194304) := Lib.hid (by simp; omega)
  rw [← hn] at hr
  rw [← hm] at hr
  rw [← hn, ← hm]
  clear hn hm hp0 hp1 h16 h40
  have N0 := (NB.start hr 31).alloc (.cells #[.slice none 0 0, .slice none 0 0] 31)
  have h0 := N0.b0
  have h1 := N0.b1
  have c0f : ((w.alloc (.cells #[.slice a0 n p0, .slice a1 m p1] 31)).alloc (.cells #[.slice none 0 0, .slice none 0 0] 31)).cell? ⟨w.heap.size + 1, 0, none⟩ = some (.slice none 0 0) := by simp [go_sem]
  have c1f : ((w.alloc (.cells #[.slice a0 n p0, .slice a1 m p1] 31)).alloc (.cells #[.slice none 0 0, .slice none 0 0] 31)).cell? ⟨w.heap.size + 1, 1, none⟩ = some (.slice none 0 0) := by simp [go_sem]
  have f0f : ((w.alloc (.cells #[.slice a0 n p0, .slice a1 m p1] 31)).alloc (.cells #[.slice none 0 0, .slice none 0 0] 31)).frozen? ⟨w.heap.size + 1, 0, none⟩ = false := by simp [go_sem]
  have f1f : ((w.alloc (.cells #[.slice a0 n p0, .slice a1 m p1] 31)).alloc (.cells #[.slice none 0 0, .slice none 0 0] 31)).frozen? ⟨w.heap.size + 1, 1, none⟩ = false := by simp [go_sem]
  have hsz : ((w.alloc (.cells #[.slice a0 n p0, .slice a1 m p1] 31)).alloc (.cells #[.slice none 0 0, .slice none 0 0] 31)).heap.size = w.heap.size + 2 := by simp
  clear hr
  go_enter Try.func68, Try.ntmps68
  go_wp2
  generalize (w.alloc (.cells #[.slice a0 n p0, .slice a1 m p1] 31)).alloc (.cells #[.slice none 0 0, .slice none 0 0] 31) = W at *
  refine wp_region_held_drew (S := (fun w' => w'.cell? ⟨w.heap.size, 0, none⟩ = some (.slice a0 n p0) ∧ w'.cell? ⟨w.heap.size, 1, none⟩ = some (.slice a1 m p1))) (by kernel_rfl) ?_ (fun hHeld => ?_)
  · exact ⟨N0.drew.b0, N0.drew.b1⟩
  refine wpAnyH_name ?_
  intro wS hwS
  rw [← hwS] at hHeld
  have hbS := below_named hwS
  clear hwS
  have hB0 := Below.refl wS.heap.size wS
  have NS := N0.next hbS
  have hzS : w.heap.size + 2 ≤ wS.heap.size := by have := hbS.size; omega
  have hBS := NS.below
  have KB : Hid (∀ y : World, Below wS.heap.size wS y → y.cell? ⟨w.heap.size, 0, none⟩ = some (.slice a0 n p0) ∧ y.cell? ⟨w.heap.size, 1, none⟩ = some (.slice a1 m p1)) := Lib.hid fun y h => ⟨(NS.next h).b0, (NS.next h).b1⟩
  have RD : Hid (∀ y : World, Below wS.heap.size wS y → RdN y (.slice a0 n p0) (.slice a1 m p1) ts ls) := Lib.hid fun y h => (NS.next h).rd
  have RB : Hid (∀ y : World, Below wS.heap.size wS y → y.cell? ⟨w.heap.size + 1, 0, none⟩ = some (.slice none 0 0) ∧ y.cell? ⟨w.heap.size + 1, 1, none⟩ = some (.slice none 0 0) ∧ y.frozen? ⟨w.heap.size + 1, 0, none⟩ = false ∧ y.frozen? ⟨w.heap.size + 1, 1, none⟩ = false ∧ w.heap.size + 1 < y.heap.size) := Lib.hid fun y h => ⟨bcell h (bcell hbS c0f), bcell h (bcell hbS c1f), by rw [h.frozen (p := ⟨w.heap.size + 1, 0, none⟩) (by show w.heap.size + 1 < _; omega), hbS.frozen (p := ⟨w.heap.size + 1, 0, none⟩) (by show w.heap.size + 1 < _; omega)]; exact f0f, by rw [h.frozen (p := ⟨w.heap.size + 1, 1, none⟩) (by show w.heap.size + 1 < _; omega), hbS.frozen (p := ⟨w.heap.size + 1, 1, none⟩) (by show w.heap.size + 1 < _; omega)]; exact f1f, by have := h.size; omega⟩
  have KS : Hid (∀ (y : World) (p q : Value), Below wS.heap.size wS y → ((y.setCell ⟨w.heap.size + 1, 0, none⟩ p).setCell ⟨w.heap.size + 1, 1, none⟩ q).cell? ⟨w.heap.size, 0, none⟩ = some (.slice a0 n p0) ∧ ((y.setCell ⟨w.heap.size + 1, 0, none⟩ p).setCell ⟨w.heap.size + 1, 1, none⟩ q).cell? ⟨w.heap.size, 1, none⟩ = some (.slice a1 m p1)) := Lib.hid fun y p q h => by
    rw [setc_far (by omega), setc_far (by omega), setc_far (by omega), setc_far (by omega)]
    exact KB.out _ h
  clear N0 h0 h1 c0f c1f f0f f1f NS hbS
  refine wpAnyH_take (i := 1) (oi := { dst := some 4, op := Go.Op.fieldAddr 31 (Go.Operand.tmp 1) 0, type := 0, pos := "l6_tower.go:140", after := #[], guard := none }) (v := ?_) rfl (by kernel_rfl) (by kernel_rfl) (by kernel_rfl) (fun _ _ _ h => h) (Or.inl ⟨by rfl, ?_⟩) (by assumption) ?_
  rotate_left
  · intro w hSw; (try dsimp only at hSw); go_simp; try with_reducible rfl
  try simp only [Act.put, List.setIfInBounds_toArray, List.set_cons_zero, List.set_cons_succ]
  refine wpAnyH_take (i := 2) (oi := { dst := some 5, op := Go.Op.load 28 (Go.Operand.tmp 4), type := 28, pos := "l6_tower.go:140", after := #[{ on := 1, ground := Go.Ground.data }], guard := none }) (v := ?_) rfl (by kernel_rfl) (by kernel_rfl) (by kernel_rfl) (fun _ _ _ h => h) (Or.inl ⟨by rfl, ?_⟩) (by assumption) ?_
  rotate_left
  · intro w hSw; (try dsimp only at hSw); go_simp; try with_reducible rfl
  try simp only [Act.put, List.setIfInBounds_toArray, List.set_cons_zero, List.set_cons_succ]
  refine wpAnyH_take (i := 5) (oi := { dst := some 8, op := Go.Op.fieldAddr 31 (Go.Operand.tmp 1) 1, type := 0, pos := "l6_tower.go:140", after := #[], guard := none }) (v := ?_) rfl (by kernel_rfl) (by kernel_rfl) (by kernel_rfl) (fun _ _ _ h => h) (Or.inl ⟨by rfl, ?_⟩) (by assumption) ?_
  rotate_left
  · intro w hSw; (try dsimp only at hSw); go_simp; try with_reducible rfl
  try simp only [Act.put, List.setIfInBounds_toArray, List.set_cons_zero, List.set_cons_succ]
  refine wpAnyH_take (i := 6) (oi := { dst := some 9, op := Go.Op.load 29 (Go.Operand.tmp 8), type := 29, pos := "l6_tower.go:140", after := #[{ on := 5, ground := Go.Ground.data }], guard := none }) (v := ?_) rfl (by kernel_rfl) (by kernel_rfl) (by kernel_rfl) (fun _ _ _ h => h) (Or.inl ⟨by rfl, ?_⟩) (by assumption) ?_
  rotate_left
  · intro w hSw; (try dsimp only at hSw); go_simp; try with_reducible rfl
  try simp only [Act.put, List.setIfInBounds_toArray, List.set_cons_zero, List.set_cons_succ]
  refine wpAnyH_ready (rs := [0, 4]) (by kernel_rfl) (by simp) ?_
  refine AllReadyH.cons (o := { dst := some 3, op := Go.Op.buildSlice 28 0 #[], type := 28, pos := "l6_tower.go:140", after := #[], guard := none }) rfl (fun K hK => ?_) ?_
  · go_simp
    refine hK.out _ _ ?_ (fun hHeld => ?_)
    · exact KB.out _ (hB0.alloc hB0.size _)
    clear hK K
    try simp only [Act.put, List.setIfInBounds_toArray, List.set_cons_zero, List.set_cons_succ]
    refine wpAnyH_name ?_
    intro w1 hw1
    rw [← hw1] at hHeld
    have hb1 := below_alloc hw1
    have z1 := lt_named hw1
    have e0 : OwnR 62 c3 3 w1 wS.heap.size (.slice (some ⟨wS.heap.size, 0, none⟩) 0 0) ([] : List T3) := by rw [hw1]; exact OwnR.emptyTower _ _ hB0.size
    clear hw1
    have hB2 := hB0.trans (hb1.mono hB0.size)
    refine wpAnyH_ready (rs := [3, 4]) (by kernel_rfl) (by simp) ?_
    refine AllReadyH.cons (o := { dst := some 6, op := Go.Op.call { callee := Go.Callee.builtin Go.Builtin.append, args := #[Go.Operand.tmp 3, Go.Operand.tmp 5], argTypes := #[28, 28] }, type := 28, pos := "l6_tower.go:140", after := #[{ on := 0, ground := Go.Ground.data }, { on := 2, ground := Go.Ground.data }], guard := none }) rfl (fun K hK => ?_) ?_
    · refine step_append_TowerS (by rfl) _ _ (by rfl) wS.heap.size _ _ [] ts (by rfl) (by rfl) e0 ((RD.out _ hB2).1) HLT.out (hB2.size) ?_
      intro v3 w3 o0 hg3 hat3
      have hBn3 := hB2.grown hg3 hB2.size (fun k hk => (e0.lt k hk).1)
      rw [List.nil_append] at o0
      obtain ⟨ad0, cp0, rfl, -⟩ := o0.rd.len
      try go_simp
      refine hK.out _ _ ?_ (fun hHeld => ?_)
      · exact KB.out _ hBn3
      clear hK K
      try simp only [Act.put, List.setIfInBounds_toArray, List.set_cons_zero, List.set_cons_succ]
      refine wpAnyH_ready (rs := [4]) (by kernel_rfl) (by simp) ?_
      refine AllReadyH.cons (o := { dst := some 7, op := Go.Op.buildSlice 29 0 #[], type := 29, pos := "l6_tower.go:140", after := #[], guard := none }) rfl (fun K hK => ?_) AllReadyH.nil
      go_simp
      refine hK.out _ _ ?_ (fun hHeld => ?_)
      · exact KB.out _ (hBn3.alloc hBn3.size _)
      clear hK K
      try simp only [Act.put, List.setIfInBounds_toArray, List.set_cons_zero, List.set_cons_succ]
      refine wpAnyH_name ?_
      intro w4 hw4
      rw [← hw4] at hHeld
      have hb4 := below_alloc hw4
      have z4 := lt_named hw4
      have e1 : OwnR 53 c3 3 w4 wS.heap.size (.slice (some ⟨w3.heap.size, 0, none⟩) 0 0) ([] : List T3) := by rw [hw4]; exact OwnR.emptyLink _ _ hBn3.size
      clear hw4
      have o0 := o0.later hb4
      have hB5 := hBn3.trans (hb4.mono hBn3.size)
      refine wpAnyH_ready (rs := [7]) (by kernel_rfl) (by simp) ?_
      refine AllReadyH.cons (o := { dst := some 10, op := Go.Op.call { callee := Go.Callee.builtin Go.Builtin.append, args := #[Go.Operand.tmp 7, Go.Operand.tmp 9], argTypes := #[29, 29] }, type := 29, pos := "l6_tower.go:140", after := #[{ on := 4, ground := Go.Ground.data }, { on := 6, ground := Go.Ground.data }, { on := 3, ground := Go.Ground.chain }], guard := none }) rfl (fun K hK => ?_) AllReadyH.nil
      refine step_append_LinkS (by rfl) _ _ (by rfl) wS.heap.size _ _ [] ls (by rfl) (by rfl) e1 ((RD.out _ hB5).2) HLL.out (hB5.size) ?_
      intro v6 w6 o1 hg6 hat6
      have hBn6 := hB5.grown hg6 hB5.size (fun k hk => (e1.lt k hk).1)
      rw [List.nil_append] at o1
      obtain ⟨ad1, cp1, rfl, -⟩ := o1.rd.len
      have o0 := o0.kept hg6 (row_apart o0 e1 (by decide))
      try go_simp
      refine hK.out _ _ ?_ (fun hHeld => ?_)
      · exact KB.out _ hBn6
      clear hK K
      try simp only [Act.put, List.setIfInBounds_toArray, List.set_cons_zero, List.set_cons_succ]
      refine wpAnyH_take (i := 8) (oi := { dst := some 11, op := Go.Op.build 31 #[(0, Go.Operand.tmp 6), (1, Go.Operand.tmp 10)], type := 31, pos := "l6_tower.go:140", after := #[{ on := 3, ground := Go.Ground.data }, { on := 7, ground := Go.Ground.data }], guard := none }) (v := ?_) rfl (by kernel_rfl) (by kernel_rfl) (by kernel_rfl) (fun _ _ _ h => h) (Or.inl ⟨by rfl, ?_⟩) (by assumption) ?_
      rotate_left
      · intro w hSw; (try dsimp only at hSw); go_simp; try with_reducible rfl
      try simp only [Act.put, List.setIfInBounds_toArray, List.set_cons_zero, List.set_cons_succ]
      refine wpAnyH_ready (rs := [9]) (by kernel_rfl) (by simp) ?_
      refine AllReadyH.cons (o := { dst := none, op := Go.Op.store 31 (Go.Operand.tmp 2) (Go.Operand.tmp 11), type := 0, pos := "l6_tower.go:140", after := #[{ on := 8, ground := Go.Ground.data }, { on := 7, ground := Go.Ground.chain }, { on := 0, ground := Go.Ground.phase }, { on := 1, ground := Go.Ground.phase }, { on := 2, ground := Go.Ground.phase }, { on := 3, ground := Go.Ground.phase }, { on := 4, ground := Go.Ground.phase }, { on := 5, ground := Go.Ground.phase }, { on := 6, ground := Go.Ground.phase }, { on := 7, ground := Go.Ground.phase }, { on := 8, ground := Go.Ground.phase }], guard := none }) rfl (fun K hK => ?_) AllReadyH.nil
      obtain ⟨r0, r1, f0, f1, rz⟩ := RB.out _ hBn6
      go_simp
      refine hK.out _ _ ?_ (fun hHeld => ?_)
      · exact KS.out _ _ _ hBn6
      clear hK K
      try simp only [Act.put, List.setIfInBounds_toArray, List.set_cons_zero, List.set_cons_succ]
      refine wpAnyH_done (by kernel_rfl) ?_ _
      go_wp2
      refine bodyPost_ret (v := .agg #[.slice ad0 ts.length cp0, .slice ad1 ls.length cp1]) (by simp [results, Try.results68, go_sem, r0, r1, f0, f1, rz]) rfl ⟨_, _, rfl, ?_, ?_⟩
      · have q0 := ((o0.setLow (b := w.heap.size + 1) (o := 0) (x := .slice ad0 ts.length cp0) (by omega)).setLow (b := w.heap.size + 1) (o := 1) (x := .slice ad1 ls.length cp1) (by omega)).base (B' := w.heap.size) (by omega)
        have q1 := ((o1.setLow (b := w.heap.size + 1) (o := 0) (x := .slice ad0 ts.length cp0) (by omega)).setLow (b := w.heap.size + 1) (o := 1) (x := .slice ad1 ls.length cp1) (by omega)).base (B' := w.heap.size) (by omega)
        exact ⟨⟨q0, fun k hk => (q0.lt k hk).2⟩, ⟨q1, fun k hk => (q1.lt k hk).2⟩⟩
      · exact ((hBS.trans (hBn6.mono hBS.size)).setCell (p := ⟨w.heap.size + 1, 0, none⟩) (by show w.heap.size ≤ w.heap.size + 1; omega) _).setCell (p := ⟨w.heap.size + 1, 1, none⟩) (by show w.heap.size ≤ w.heap.size + 1; omega) _
    refine AllReadyH.cons (o := { dst := some 7, op := Go.Op.buildSlice 29 0 #[], type := 29, pos := "l6_tower.go:140", after := #[], guard := none }) rfl (fun K hK => ?_) AllReadyH.nil
    go_simp
    refine hK.out _ _ ?_ (fun hHeld => ?_)
    · exact KB.out _ (hB2.alloc hB2.size _)
    clear hK K
    try simp only [Act.put, List.setIfInBounds_toArray, List.set_cons_zero, List.set_cons_succ]
    refine wpAnyH_name ?_
    intro w7 hw7
    rw [← hw7] at hHeld
    have hb7 := below_alloc hw7
    have z7 := lt_named hw7
    have e1 : OwnR 53 c3 3 w7 wS.heap.size (.slice (some ⟨w1.heap.size, 0, none⟩) 0 0) ([] : List T3) := by rw [hw7]; exact OwnR.emptyLink _ _ hB2.size
    clear hw7
    have e0 := e0.later hb7
    have hB8 := hB2.trans (hb7.mono hB2.size)
    refine wpAnyH_ready (rs := [3]) (by kernel_rfl) (by simp) ?_
    refine AllReadyH.cons (o := { dst := some 6, op := Go.Op.call { callee := Go.Callee.builtin Go.Builtin.append, args := #[Go.Operand.tmp 3, Go.Operand.tmp 5], argTypes := #[28, 28] }, type := 28, pos := "l6_tower.go:140", after := #[{ on := 0, ground := Go.Ground.data }, { on := 2, ground := Go.Ground.data }], guard := none }) rfl (fun K hK => ?_) AllReadyH.nil
    refine step_append_TowerS (by rfl) _ _ (by rfl) wS.heap.size _ _ [] ts (by rfl) (by rfl) e0 ((RD.out _ hB8).1) HLT.out (hB8.size) ?_
    intro v9 w9 o0 hg9 hat9
    have hBn9 := hB8.grown hg9 hB8.size (fun k hk => (e0.lt k hk).1)
    rw [List.nil_append] at o0
    obtain ⟨ad0, cp0, rfl, -⟩ := o0.rd.len
    have e1 := e1.kept hg9 (row_apart e1 e0 (by decide))
    try go_simp
    refine hK.out _ _ ?_ (fun hHeld => ?_)
    · exact KB.out _ hBn9
    clear hK K
    try simp only [Act.put, List.setIfInBounds_toArray, List.set_cons_zero, List.set_cons_succ]
    refine wpAnyH_ready (rs := [7]) (by kernel_rfl) (by simp) ?_
    refine AllReadyH.cons (o := { dst := some 10, op := Go.Op.call { callee := Go.Callee.builtin Go.Builtin.append, args := #[Go.Operand.tmp 7, Go.Operand.tmp 9], argTypes := #[29, 29] }, type := 29, pos := "l6_tower.go:140", after := #[{ on := 4, ground := Go.Ground.data }, { on := 6, ground := Go.Ground.data }, { on := 3, ground := Go.Ground.chain }], guard := none }) rfl (fun K hK => ?_) AllReadyH.nil
    refine step_append_LinkS (by rfl) _ _ (by rfl) wS.heap.size _ _ [] ls (by rfl) (by rfl) e1 ((RD.out _ hBn9).2) HLL.out (hBn9.size) ?_
    intro v10 w10 o1 hg10 hat10
    have hBn10 := hBn9.grown hg10 hBn9.size (fun k hk => (e1.lt k hk).1)
    rw [List.nil_append] at o1
    obtain ⟨ad1, cp1, rfl, -⟩ := o1.rd.len
    have o0 := o0.kept hg10 (row_apart o0 e1 (by decide))
    try go_simp
    refine hK.out _ _ ?_ (fun hHeld => ?_)
    · exact KB.out _ hBn10
    clear hK K
    try simp only [Act.put, List.setIfInBounds_toArray, List.set_cons_zero, List.set_cons_succ]
    refine wpAnyH_take (i := 8) (oi := { dst := some 11, op := Go.Op.build 31 #[(0, Go.Operand.tmp 6), (1, Go.Operand.tmp 10)], type := 31, pos := "l6_tower.go:140", after := #[{ on := 3, ground := Go.Ground.data }, { on := 7, ground := Go.Ground.data }], guard := none }) (v := ?_) rfl (by kernel_rfl) (by kernel_rfl) (by kernel_rfl) (fun _ _ _ h => h) (Or.inl ⟨by rfl, ?_⟩) (by assumption) ?_
    rotate_left
    · intro w hSw; (try dsimp only at hSw); go_simp; try with_reducible rfl
    try simp only [Act.put, List.setIfInBounds_toArray, List.set_cons_zero, List.set_cons_succ]
    refine wpAnyH_ready (rs := [9]) (by kernel_rfl) (by simp) ?_
    refine AllReadyH.cons (o := { dst := none, op := Go.Op.store 31 (Go.Operand.tmp 2) (Go.Operand.tmp 11), type := 0, pos := "l6_tower.go:140", after := #[{ on := 8, ground := Go.Ground.data }, { on := 7, ground := Go.Ground.chain }, { on := 0, ground := Go.Ground.phase }, { on := 1, ground := Go.Ground.phase }, { on := 2, ground := Go.Ground.phase }, { on := 3, ground := Go.Ground.phase }, { on := 4, ground := Go.Ground.phase }, { on := 5, ground := Go.Ground.phase }, { on := 6, ground := Go.Ground.phase }, { on := 7, ground := Go.Ground.phase }, { on := 8, ground := Go.Ground.phase }], guard := none }) rfl (fun K hK => ?_) AllReadyH.nil
    obtain ⟨r0, r1, f0, f1, rz⟩ := RB.out _ hBn10
    go_simp
    refine hK.out _ _ ?_ (fun hHeld => ?_)
    · exact KS.out _ _ _ hBn10
    clear hK K
    try simp only [Act.put, List.setIfInBounds_toArray, List.set_cons_zero, List.set_cons_succ]
    refine wpAnyH_done (by kernel_rfl) ?_ _
    go_wp2
    refine bodyPost_ret (v := .agg #[.slice ad0 ts.length cp0, .slice ad1 ls.length cp1]) (by simp [results, Try.results68, go_sem, r0, r1, f0, f1, rz]) rfl ⟨_, _, rfl, ?_, ?_⟩
    · have q0 := ((o0.setLow (b := w.heap.size + 1) (o := 0) (x := .slice ad0 ts.length cp0) (by omega)).setLow (b := w.heap.size + 1) (o := 1) (x := .slice ad1 ls.length cp1) (by omega)).base (B' := w.heap.size) (by omega)
      have q1 := ((o1.setLow (b := w.heap.size + 1) (o := 0) (x := .slice ad0 ts.length cp0) (by omega)).setLow (b := w.heap.size + 1) (o := 1) (x := .slice ad1 ls.length cp1) (by omega)).base (B' := w.heap.size) (by omega)
      exact ⟨⟨q0, fun k hk => (q0.lt k hk).2⟩, ⟨q1, fun k hk => (q1.lt k hk).2⟩⟩
    · exact ((hBS.trans (hBn10.mono hBS.size)).setCell (p := ⟨w.heap.size + 1, 0, none⟩) (by show w.heap.size ≤ w.heap.size + 1; omega) _).setCell (p := ⟨w.heap.size + 1, 1, none⟩) (by show w.heap.size ≤ w.heap.size + 1; omega) _
  refine AllReadyH.cons (o := { dst := some 7, op := Go.Op.buildSlice 29 0 #[], type := 29, pos := "l6_tower.go:140", after := #[], guard := none }) rfl (fun K hK => ?_) AllReadyH.nil
  go_simp
  refine hK.out _ _ ?_ (fun hHeld => ?_)
  · exact KB.out _ (hB0.alloc hB0.size _)
  clear hK K
  try simp only [Act.put, List.setIfInBounds_toArray, List.set_cons_zero, List.set_cons_succ]
  refine wpAnyH_name ?_
  intro w11 hw11
  rw [← hw11] at hHeld
  have hb11 := below_alloc hw11
  have z11 := lt_named hw11
  have e1 : OwnR 53 c3 3 w11 wS.heap.size (.slice (some ⟨wS.heap.size, 0, none⟩) 0 0) ([] : List T3) := by rw [hw11]; exact OwnR.emptyLink _ _ hB0.size
  clear hw11
  have hB12 := hB0.trans (hb11.mono hB0.size)
  refine wpAnyH_ready (rs := [0]) (by kernel_rfl) (by simp) ?_
  refine AllReadyH.cons (o := { dst := some 3, op := Go.Op.buildSlice 28 0 #[], type := 28, pos := "l6_tower.go:140", after := #[], guard := none }) rfl (fun K hK => ?_) AllReadyH.nil
  go_simp
  refine hK.out _ _ ?_ (fun hHeld => ?_)
  · exact KB.out _ (hB12.alloc hB12.size _)
  clear hK K
  try simp only [Act.put, List.setIfInBounds_toArray, List.set_cons_zero, List.set_cons_succ]
  refine wpAnyH_name ?_
  intro w13 hw13
  rw [← hw13] at hHeld
  have hb13 := below_alloc hw13
  have z13 := lt_named hw13
  have e0 : OwnR 62 c3 3 w13 wS.heap.size (.slice (some ⟨w11.heap.size, 0, none⟩) 0 0) ([] : List T3) := by rw [hw13]; exact OwnR.emptyTower _ _ hB12.size
  clear hw13
  have e1 := e1.later hb13
  have hB14 := hB12.trans (hb13.mono hB12.size)
  refine wpAnyH_ready (rs := [3]) (by kernel_rfl) (by simp) ?_
  refine AllReadyH.cons (o := { dst := some 6, op := Go.Op.call { callee := Go.Callee.builtin Go.Builtin.append, args := #[Go.Operand.tmp 3, Go.Operand.tmp 5], argTypes := #[28, 28] }, type := 28, pos := "l6_tower.go:140", after := #[{ on := 0, ground := Go.Ground.data }, { on := 2, ground := Go.Ground.data }], guard := none }) rfl (fun K hK => ?_) AllReadyH.nil
  refine step_append_TowerS (by rfl) _ _ (by rfl) wS.heap.size _ _ [] ts (by rfl) (by rfl) e0 ((RD.out _ hB14).1) HLT.out (hB14.size) ?_
  intro v15 w15 o0 hg15 hat15
  have hBn15 := hB14.grown hg15 hB14.size (fun k hk => (e0.lt k hk).1)
  rw [List.nil_append] at o0
  obtain ⟨ad0, cp0, rfl, -⟩ := o0.rd.len
  have e1 := e1.kept hg15 (row_apart e1 e0 (by decide))
  try go_simp
  refine hK.out _ _ ?_ (fun hHeld => ?_)
  · exact KB.out _ hBn15
  clear hK K
  try simp only [Act.put, List.setIfInBounds_toArray, List.set_cons_zero, List.set_cons_succ]
  refine wpAnyH_ready (rs := [7]) (by kernel_rfl) (by simp) ?_
  refine AllReadyH.cons (o := { dst := some 10, op := Go.Op.call { callee := Go.Callee.builtin Go.Builtin.append, args := #[Go.Operand.tmp 7, Go.Operand.tmp 9], argTypes := #[29, 29] }, type := 29, pos := "l6_tower.go:140", after := #[{ on := 4, ground := Go.Ground.data }, { on := 6, ground := Go.Ground.data }, { on := 3, ground := Go.Ground.chain }], guard := none }) rfl (fun K hK => ?_) AllReadyH.nil
  refine step_append_LinkS (by rfl) _ _ (by rfl) wS.heap.size _ _ [] ls (by rfl) (by rfl) e1 ((RD.out _ hBn15).2) HLL.out (hBn15.size) ?_
  intro v16 w16 o1 hg16 hat16
  have hBn16 := hBn15.grown hg16 hBn15.size (fun k hk => (e1.lt k hk).1)
  rw [List.nil_append] at o1
  obtain ⟨ad1, cp1, rfl, -⟩ := o1.rd.len
  have o0 := o0.kept hg16 (row_apart o0 e1 (by decide))
  try go_simp
  refine hK.out _ _ ?_ (fun hHeld => ?_)
  · exact KB.out _ hBn16
  clear hK K
  try simp only [Act.put, List.setIfInBounds_toArray, List.set_cons_zero, List.set_cons_succ]
  refine wpAnyH_take (i := 8) (oi := { dst := some 11, op := Go.Op.build 31 #[(0, Go.Operand.tmp 6), (1, Go.Operand.tmp 10)], type := 31, pos := "l6_tower.go:140", after := #[{ on := 3, ground := Go.Ground.data }, { on := 7, ground := Go.Ground.data }], guard := none }) (v := ?_) rfl (by kernel_rfl) (by kernel_rfl) (by kernel_rfl) (fun _ _ _ h => h) (Or.inl ⟨by rfl, ?_⟩) (by assumption) ?_
  rotate_left
  · intro w hSw; (try dsimp only at hSw); go_simp; try with_reducible rfl
  try simp only [Act.put, List.setIfInBounds_toArray, List.set_cons_zero, List.set_cons_succ]
  refine wpAnyH_ready (rs := [9]) (by kernel_rfl) (by simp) ?_
  refine AllReadyH.cons (o := { dst := none, op := Go.Op.store 31 (Go.Operand.tmp 2) (Go.Operand.tmp 11), type := 0, pos := "l6_tower.go:140", after := #[{ on := 8, ground := Go.Ground.data }, { on := 7, ground := Go.Ground.chain }, { on := 0, ground := Go.Ground.phase }, { on := 1, ground := Go.Ground.phase }, { on := 2, ground := Go.Ground.phase }, { on := 3, ground := Go.Ground.phase }, { on := 4, ground := Go.Ground.phase }, { on := 5, ground := Go.Ground.phase }, { on := 6, ground := Go.Ground.phase }, { on := 7, ground := Go.Ground.phase }, { on := 8, ground := Go.Ground.phase }], guard := none }) rfl (fun K hK => ?_) AllReadyH.nil
  obtain ⟨r0, r1, f0, f1, rz⟩ := RB.out _ hBn16
  go_simp
  refine hK.out _ _ ?_ (fun hHeld => ?_)
  · exact KS.out _ _ _ hBn16
  clear hK K
  try simp only [Act.put, List.setIfInBounds_toArray, List.set_cons_zero, List.set_cons_succ]
  refine wpAnyH_done (by kernel_rfl) ?_ _
  go_wp2
  refine bodyPost_ret (v := .agg #[.slice ad0 ts.length cp0, .slice ad1 ls.length cp1]) (by simp [results, Try.results68, go_sem, r0, r1, f0, f1, rz]) rfl ⟨_, _, rfl, ?_, ?_⟩
  · have q0 := ((o0.setLow (b := w.heap.size + 1) (o := 0) (x := .slice ad0 ts.length cp0) (by omega)).setLow (b := w.heap.size + 1) (o := 1) (x := .slice ad1 ls.length cp1) (by omega)).base (B' := w.heap.size) (by omega)
    have q1 := ((o1.setLow (b := w.heap.size + 1) (o := 0) (x := .slice ad0 ts.length cp0) (by omega)).setLow (b := w.heap.size + 1) (o := 1) (x := .slice ad1 ls.length cp1) (by omega)).base (B' := w.heap.size) (by omega)
    exact ⟨⟨q0, fun k hk => (q0.lt k hk).2⟩, ⟨q1, fun k hk => (q1.lt k hk).2⟩⟩
  · exact ((hBS.trans (hBn16.mono hBS.size)).setCell (p := ⟨w.heap.size + 1, 0, none⟩) (by show w.heap.size ≤ w.heap.size + 1; omega) _).setCell (p := ⟨w.heap.size + 1, 1, none⟩) (by show w.heap.size ≤ w.heap.size + 1; omega) _
end Go.Proofs.Yteickcpmicifgaa
