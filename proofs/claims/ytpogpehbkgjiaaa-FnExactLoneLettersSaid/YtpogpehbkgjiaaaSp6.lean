/- Chapter 3: the least rests. -/
import Derived.Test.YtpogpehbkgjiaaaSp3
import Derived.Deep.RegionHeld3
namespace Go.Proofs.Ytpogpehbkgjiaaa
open Go.RowKit
set_option linter.unusedSimpArgs false
set_option linter.unusedVariables false

/-- How the phrases of the least length go on. -/
structure Rst where
  ex : Bool
  len : Int
  ph : Nat
  nx : Nat
def noRst : Rst := ⟨false, 0, 0, 0⟩
def endRst : Rst := ⟨true, 0, 0, 0⟩
def cRst (r : Rst) : Nat → Value
  | 0 => .bool r.ex
  | 1 => .int .i64 r.len
  | 2 => .int .i64 r.ph
  | _ => .int .i64 r.nx
def restRow (r : Nat → Rst) (j : Nat) : Value := cRst (r (j / 4)) (j % 4)
theorem restRow_at (r : Nat → Rst) (a c : Nat) (hc : c < 4) : restRow r (a * 4 + c) = cRst (r a) c := by
  unfold restRow
  rw [show (a * 4 + c) / 4 = a by omega, show (a * 4 + c) % 4 = c by omega]
theorem restRow_put (f : Nat → Rst) (a : Nat) (x : Rst) (j : Nat) :
    (if j = a * 4 + 3 then cRst x 3 else if j = a * 4 + 2 then cRst x 2 else if j = a * 4 + 1 then cRst x 1 else if j = a * 4 then cRst x 0 else restRow f j) = restRow (fun i => if i = a then x else f i) j := by
  by_cases h : j / 4 = a
  · have hj : j = a * 4 + j % 4 := by omega
    have h4 : j % 4 < 4 := Nat.mod_lt _ (by omega)
    generalize j % 4 = c at hj h4
    subst hj
    rw [restRow_at _ _ _ h4, restRow_at _ _ _ h4]
    show _ = cRst (if a = a then x else f a) c
    rw [if_pos rfl]
    match c, h4 with
    | 0, _ => simp
    | 1, _ => simp
    | 2, _ => simp
    | 3, _ => simp
  · rw [if_neg (by omega), if_neg (by omega), if_neg (by omega), if_neg (by omega)]
    unfold restRow
    simp only [if_neg h]
theorem Try_info_rest : (Try.prog.info? 95).map (fun i => (i.zero, i.size, i.bytes)) = some (some (.agg #[.bool false, .int .i64 0, .int .i64 0, .int .i64 0]), 4, 32) := by kernel_rfl
theorem made_rests (n : Nat) : (madeCells (Value.agg #[.bool false, .int .i64 0, .int .i64 0, .int .i64 0]).cells (n * 4)).toList = (List.range (n * 4)).map (restRow fun _ => noRst) := by
  apply List.ext_getElem?
  intro j
  by_cases hj : j < n * 4
  · have h4 : j % 4 < 4 := Nat.mod_lt _ (by omega)
    have : restRow (fun _ => noRst) j = cRst noRst (j % 4) := rfl
    simp only [List.getElem?_map, List.getElem?_range hj, Option.map_some, this]
    simp only [madeCells, Value.cells]
    generalize hc : j % 4 = c at h4
    match c, h4 with
    | 0, _ => simp [hj, hc, Value.cells, cRst, noRst]
    | 1, _ => simp [hj, hc, Value.cells, cRst, noRst]
    | 2, _ => simp [hj, hc, Value.cells, cRst, noRst]
    | 3, _ => simp [hj, hc, Value.cells, cRst, noRst]
  · simp [madeCells, hj]
theorem made_restRow {w w1 : World} {m : Nat} (h : w1.ownsRow w.heap.size 95 4 (.slice (some ⟨w.heap.size, 0, none⟩) m m) m (madeCells (Value.agg #[.bool false, .int .i64 0, .int .i64 0, .int .i64 0]).cells (m * 4)).toList) (hg : w.grownBy w1 none) :
    RowF w1 w.heap.size 95 4 (.slice (some ⟨w.heap.size, 0, none⟩) m m) m (restRow fun _ => noRst) ∧ Below w.heap.size w w1 := by
  refine ⟨?_, (Below.refl _ _).grown hg (Nat.le_refl _) (fun k h => by cases h)⟩
  unfold RowF; rw [← made_rests]; exact h
/-- One step looked at. -/
def stepR (ps : List Ph) (r : Nat → Rst) (acc : Rst) (x : St) : Rst :=
  if (r x.2).ex = true ∧ (acc.ex = false ∨ wrap64 ((phAt ps x.1).sig.length + (r x.2).len) < acc.len) then ⟨true, wrap64 ((phAt ps x.1).sig.length + (r x.2).len), x.1, x.2⟩ else acc
def foldR (ps : List Ph) (r : Nat → Rst) (l : List St) : Rst := l.foldl (stepR ps r) noRst
theorem foldR_snoc (ps : List Ph) (r : Nat → Rst) (l : List St) (x : St) : foldR ps r (l ++ [x]) = stepR ps r (foldR ps r l) x := by simp [foldR]
theorem stepR_congr {ps : List Ph} {r s : Nat → Rst} {x : St} (h : r x.2 = s x.2) (acc : Rst) : stepR ps r acc x = stepR ps s acc x := by unfold stepR; rw [h]
theorem foldR_congr {ps : List Ph} {r s : Nat → Rst} {l : List St} (h : ∀ x ∈ l, r x.2 = s x.2) : foldR ps r l = foldR ps s l := by
  unfold foldR
  generalize noRst = z
  induction l generalizing z with
  | nil => rfl
  | cons x l ih =>
    simp only [List.foldl_cons]
    rw [stepR_congr (h x (by simp))]
    exact ih (fun y hy => h y (by simp [hy])) _
def Rests (ps : List Ph) (n : Nat) (ss : Nat → List St) (r : Nat → Rst) : Prop := r n = endRst ∧ ∀ a, a < n → r a = foldR ps r (ss a)
theorem rests_exists (ps : List Ph) {n : Nat} {ss : Nat → List St} (h : Ahead n ss) : ∃ r, Rests ps n ss r :=
  back_exists n endRst (fun r a => foldR ps r (ss a)) fun f g a ha hj => foldR_congr fun x hx => hj _ (h a ha x hx).1
def Inside (ps : List Ph) (n : Nat) (ss : Nat → List St) : Prop := ∀ a, a < n → ∀ x ∈ ss a, x.1 < ps.length

set_option maxRecDepth 100000 in
set_option maxHeartbeats 4000000 in
theorem leastRests_any (v u : Value) (ps : List Ph) (n : Nat) (ss : Nat → List St) (r : Nat → Rst) (w : World) (hn : n ≤ 60) (hr : RdPs w v ps) (hu : RdSS w u n ss) (ha : Ahead n ss) (hin : Inside ps n ss) (hl : ∀ a, a < n → (ss a).length ≤ 40) (hp40 : ps.length ≤ 40) (hR : Rests ps n ss r) :
    Calls Try.prog 85 #[.agg #[v], u] w fun e w' => ∃ g, e = .returned (.slice (some ⟨g, 0, none⟩) (n + 1) (n + 1)) ∧ RowF w' w.heap.size 95 4 (.slice (some ⟨g, 0, none⟩) (n + 1) (n + 1)) (n + 1) (restRow r) ∧ Below w.heap.size w w' := by
  obtain ⟨i0, hi, hz0, hz1, hz2⟩ := info_parts Try_info_rest
  obtain ⟨a0, cap, rfl, -⟩ := hr.len
  obtain ⟨gs, rfl, hgs⟩ := hu.v
  obtain ⟨np, hnp⟩ : ∃ np, np = ps.length := ⟨_, rfl⟩
  have HNP := Lib.hid hnp
  have HA := Lib.hid ha
  have HI := Lib.hid hin
  have HL := Lib.hid hl
  have HF := Lib.hid hR
  have hb0 := (Below.refl w.heap.size w).alloc (Nat.le_refl _) (.cells #[.slice a0 ps.length cap] 31)
  have HR := Lib.hid (hr.later hb0)
  have HS := Lib.hid (hu.later hb0)
  have hx0 : (w.alloc (.cells #[.slice a0 ps.length cap] 31)).cell? ⟨w.heap.size, 0, none⟩ = some (.slice a0 ps.length cap) := by simp [go_sem]
  have hsz0 : w.heap.size < (w.alloc (.cells #[.slice a0 ps.length cap] 31)).heap.size := by simp
  have hgs0 : gs < (w.alloc (.cells #[.slice a0 ps.length cap] 31)).heap.size := by simp; omega
  rw [← hnp] at hb0 hx0 hsz0 HR hp40 HS hgs0 ⊢
  clear hnp hr hu ha hin hl hR
  obtain ⟨m, hm⟩ : ∃ m, m = n + 1 := ⟨_, rfl⟩
  have HM := Lib.hid hm
  have hm2 : (n : Int) < (m : Int) := by omega
  have hm3 : n < m := by omega
  have hm4 : m ≤ 61 := by omega
  have hw1 : IntKind.i64.wrap ((n : Int) + 1) = (m : Int) := by rw [hm]; exact IntWalk.i64_in _ (by omega)
  obtain ⟨z0, hz0'⟩ : ∃ z0 : Int, z0 = (n : Int) - 1 := ⟨_, rfl⟩
  have HZ := Lib.hid hz0'
  have hw2 : IntKind.i64.wrap ((n : Int) - 1) = z0 := by rw [hz0']; exact IntWalk.i64_in _ (by omega)
  rw [← hm]
  clear hm hz0'
  go_enter Try.func85, Try.ntmps85
  go_wp2_with (generalize w.alloc (.cells #[.slice a0 np cap] 31) = W at *; refine wpList_make_full _ rfl _ _ 92 rfl W.heap.size 95 i0 (.agg #[.bool false, .int .i64 0, .int .i64 0, .int .i64 0]) 4 Try.underlying92 hi hz0 hz1 .i64 .i64 _ _ m rfl rfl rfl rfl (by rw [hz2]; omega) (by unfold maxLen; omega) (Nat.le_refl _) ?_; intro w1 hown1 hgrow1; have ho0 := made_restRow hown1 hgrow1; obtain ⟨ho0, hb1⟩ := ho0; have hc0 := ho0.at_ (n * 4) (by omega); have hf0 := ho0.frozen (n * 4); have HP := Lib.hid (ho0.put (n * 4) (.bool true)); have hs0 := ho0.lt.2; clear hown1 hgrow1 ho0)
  have hst0 : RowF (w1.setCell ⟨W.heap.size, n * 4, none⟩ (.bool true)) W.heap.size 95 4 (.slice (some ⟨W.heap.size, 0, none⟩) m m) m (restRow fun j => if n ≤ j then r j else noRst) := HP.out.1.congr fun j hj => by
    have hj' : j < (n + 1) * 4 := by have := HM.out; omega
    show (if j = n * 4 then Value.bool true else cRst noRst (j % 4)) = cRst (if n ≤ j / 4 then r (j / 4) else noRst) (j % 4)
    by_cases e : n ≤ j / 4
    · have h5 : j / 4 = n := by omega
      rw [if_pos e, h5, HF.out.1]
      have h4 : j % 4 < 4 := Nat.mod_lt _ (by omega)
      have hj2 : j = n * 4 + j % 4 := by omega
      generalize j % 4 = c at hj2 h4
      subst hj2
      match c, h4 with
      | 0, _ => simp [cRst, endRst, noRst]
      | 1, _ => simp [cRst, endRst, noRst]
      | 2, _ => simp [cRst, endRst, noRst]
      | 3, _ => simp [cRst, endRst, noRst]
    · rw [if_neg (by omega), if_neg e]
  have HS0 := Lib.hid hst0
  have hbS := hb1.setCell (p := ⟨W.heap.size, n * 4, none⟩) (Nat.le_refl _) (.bool true)
  clear hst0
  go_loopw [6] (fun i wr => ∃ (k : Nat) (z : Int), k ≤ n ∧ i = .int .i64 z ∧ Hid (z = (k : Int) - 1) ∧ RowF wr W.heap.size 95 4 (.slice (some ⟨W.heap.size, 0, none⟩) m m) m (restRow fun j => if k ≤ j then r j else noRst) ∧ Below W.heap.size W wr ∧ W.heap.size < wr.heap.size) (fun i _ => (intOf i + 1).toNat)
  case atStart => exact ⟨n, _, Nat.le_refl _, rfl, HZ, HS0.out, hbS, by simpa using hs0⟩
  case round =>
    obtain ⟨k, z, hk, rfl, hz, hrow, hbl, hsz⟩ := hrel
    rcases Nat.eq_zero_or_pos k with rfl | hpos
    · obtain rfl : z = -1 := by have := hz.out; omega
      go_wp2
      go_ret
      refine ⟨_, rfl, ?_, hb0.trans (hbl.mono hb0.size)⟩
      have h := hrow.congr (G := restRow r) fun j hj => by show cRst (if 0 ≤ j / 4 then r (j / 4) else noRst) (j % 4) = _; rw [if_pos (Nat.zero_le _)]; rfl
      exact row_base h hb0.size
    · obtain ⟨a, rfl⟩ : ∃ a : Nat, z = (a : Int) := ⟨k - 1, by have := hz.out; omega⟩
      have ha1 : a < n := by have := hz.out; omega
      have HK : Hid (k = a + 1) := Lib.hid (by have := hz.out; omega)
      obtain ⟨-, B', ad, kc, hc, hst, hle⟩ := HS.out.at_ a ha1
      obtain ⟨len, hlen⟩ : ∃ len, len = (ss a).length := ⟨_, rfl⟩
      have hl40 : len ≤ 40 := by rw [hlen]; exact HL.out a ha1
      rw [← hlen] at hc hst hle
      have HLEN := Lib.hid hlen
      have HST := Lib.hid hst
      have HR2 : Hid (RowF wr W.heap.size 95 4 (.slice (some ⟨W.heap.size, 0, none⟩) m m) m (restRow fun j => if a < j then r j else if j = a then foldR ps r ((ss a).take 0) else noRst)) := Lib.hid (hrow.congr fun j hj => by
        have := HK.out
        show cRst (if k ≤ j / 4 then r (j / 4) else noRst) (j % 4) = cRst (if a < j / 4 then r (j / 4) else if j / 4 = a then foldR ps r ((ss a).take 0) else noRst) (j % 4)
        by_cases h1 : a < j / 4
        · rw [if_pos h1, if_pos (by omega)]
        · rw [if_neg h1, if_neg (by omega)]
          by_cases h2 : j / 4 = a
          · rw [if_pos h2]; rfl
          · rw [if_neg h2])
      have hxw := hx0 ▸ hbl.cell (p := ⟨w.heap.size, 0, none⟩) hsz0
      have hcw := hc ▸ hbl.cell (p := ⟨gs, a, none⟩) hgs0
      have ha2 : (a : Int) < (n : Int) := by omega
      have hwa : IntKind.i64.wrap ((a : Int) - 1) = (a : Int) - 1 := IntWalk.i64_in _ (by omega)
      clear hrow hlen hst hc hk hpos hz
      rename World => WL
      go_wp2
      go_loopw [32] (fun i wr => ∃ q : Nat, q ≤ len ∧ i = .int .i64 q ∧ RowF wr W.heap.size 95 4 (.slice (some ⟨W.heap.size, 0, none⟩) m m) m (restRow fun j => if a < j then r j else if j = a then foldR ps r ((ss a).take q) else noRst) ∧ Below W.heap.size W wr ∧ W.heap.size < wr.heap.size) (fun i _ => len - (intOf i).toNat)
      case atStart => exact ⟨0, Nat.zero_le _, rfl, HR2.out, hbl, hsz⟩
      case round =>
        obtain ⟨q, hq, rfl, hrow, hblq, hszq⟩ := hrel
        by_cases hlt : q < len
        · obtain ⟨g2, rfl, -, hg2, hd0, hd1⟩ := OwnSt.at_ (row_below HST.out hblq (fun j hj => (World.ownsRow.lt HST.out j hj).2)) HLEN.out q hlt
          have hmem := HA.out a ha1 _ (stAt_mem (by rw [← HLEN.out]; exact hlt))
          have hins := HI.out a ha1 _ (stAt_mem (by rw [← HLEN.out]; exact hlt))
          have hsn := take_snoc (l := ss a) (i := q) (by rw [← HLEN.out]; exact hlt)
          obtain ⟨xp, xe, hx⟩ : ∃ xp xe, stAt (ss a) q = (xp, xe) := ⟨_, _, rfl⟩
          rw [hx] at hd0 hd1 hmem hsn hins
          obtain ⟨he1, he2⟩ := hmem
          simp only at hd0 hd1 he1 he2 hins
          rw [← HNP.out] at hins
          have HSN := Lib.hid hsn
          obtain ⟨acc, hacc⟩ : ∃ acc, acc = foldR ps r ((ss a).take q) := ⟨_, rfl⟩
          have HAA := Lib.hid hacc
          obtain ⟨bh, hbh⟩ : ∃ bh, bh = r xe := ⟨_, rfl⟩
          have HBH := Lib.hid hbh
          have e0 := hrow.at_ (xe * 4) (by omega)
          have e1 := hrow.at_ (xe * 4 + 1) (by omega)
          have e2 := hrow.at_ (xe * 4 + 2) (by omega)
          have e3 := hrow.at_ (xe * 4 + 3) (by omega)
          rw [show xe * 4 = xe * 4 + 0 from rfl, restRow_at _ _ _ (by omega), if_pos he1, ← hbh] at e0
          rw [restRow_at _ _ _ (by omega), if_pos he1, ← hbh] at e1 e2 e3
          simp only [cRst, Nat.add_zero] at e0 e1 e2 e3
          obtain ⟨bex, bln, bph, bnx⟩ := bh
          simp only at e0 e1 e2 e3
          obtain ⟨g, off, us, hag, hg, hts, hf0', hf1', hru⟩ := (HR.out.below hblq (Nat.le_refl _)).at_ HNP.out xp hins
          subst hag
          obtain ⟨ua, uc, rfl⟩ := hru.rd.len
          obtain ⟨sl, hsl⟩ : ∃ sl, sl = (phAt ps xp).sig.length := ⟨_, rfl⟩
          have HSL := Lib.hid hsl
          rw [← hsl] at hf1'
          obtain ⟨aex, aln, aph, anx⟩ := acc
          have f0 := hrow.at_ (a * 4) (by omega)
          have f1 := hrow.at_ (a * 4 + 1) (by omega)
          rw [show a * 4 = a * 4 + 0 from rfl, restRow_at _ _ _ (by omega), if_neg (Nat.lt_irrefl _), if_pos rfl, ← hacc] at f0
          rw [restRow_at _ _ _ (by omega), if_neg (Nat.lt_irrefl _), if_pos rfl, ← hacc] at f1
          simp only [cRst, Nat.add_zero] at f0 f1
          have hbA := ((Below.refl wr.heap.size wr).alloc (Nat.le_refl _) (.cells #[.int .i64 xp, .int .i64 xe] 71)).alloc (by simp) (.cells #[.bool bex, .int .i64 bln, .int .i64 bph, .int .i64 bnx] 95)
          have HRA := Lib.hid (hrow.later hbA)
          have hblA := hblq.trans (hbA.mono hblq.size)
          have x8a : ((wr.alloc (.cells #[.int .i64 xp, .int .i64 xe] 71)).alloc (.cells #[.bool bex, .int .i64 bln, .int .i64 bph, .int .i64 bnx] 95)).cell? ⟨wr.heap.size, 0, none⟩ = some (.int .i64 xp) := by
            rw [((Below.refl _ (wr.alloc (.cells #[.int .i64 xp, .int .i64 xe] 71))).alloc (Nat.le_refl _) _).cell (p := ⟨wr.heap.size, 0, none⟩) (by simp)]; simp [go_sem]
          have x8b : ((wr.alloc (.cells #[.int .i64 xp, .int .i64 xe] 71)).alloc (.cells #[.bool bex, .int .i64 bln, .int .i64 bph, .int .i64 bnx] 95)).cell? ⟨wr.heap.size, 1, none⟩ = some (.int .i64 xe) := by
            rw [((Below.refl _ (wr.alloc (.cells #[.int .i64 xp, .int .i64 xe] 71))).alloc (Nat.le_refl _) _).cell (p := ⟨wr.heap.size, 1, none⟩) (by simp)]; simp [go_sem]
          have x9a : ((wr.alloc (.cells #[.int .i64 xp, .int .i64 xe] 71)).alloc (.cells #[.bool bex, .int .i64 bln, .int .i64 bph, .int .i64 bnx] 95)).cell? ⟨wr.heap.size + 1, 0, none⟩ = some (.bool bex) := by simp [go_sem]
          have x9b : ((wr.alloc (.cells #[.int .i64 xp, .int .i64 xe] 71)).alloc (.cells #[.bool bex, .int .i64 bln, .int .i64 bph, .int .i64 bnx] 95)).cell? ⟨wr.heap.size + 1, 1, none⟩ = some (.int .i64 bln) := by simp [go_sem]
          have hxA := hx0 ▸ hblA.cell (p := ⟨w.heap.size, 0, none⟩) hsz0
          have hfA : ((wr.alloc (.cells #[.int .i64 xp, .int .i64 xe] 71)).alloc (.cells #[.bool bex, .int .i64 bln, .int .i64 bph, .int .i64 bnx] 95)).cell? ⟨g, off + xp * 2 + 1, none⟩ = some (.slice ua sl uc) := by rw [hbA.cell (p := ⟨g, off + xp * 2 + 1, none⟩) hg]; exact hf1'
          have f0A : ((wr.alloc (.cells #[.int .i64 xp, .int .i64 xe] 71)).alloc (.cells #[.bool bex, .int .i64 bln, .int .i64 bph, .int .i64 bnx] 95)).cell? ⟨W.heap.size, a * 4, none⟩ = some (.bool aex) := by rw [hbA.cell (p := ⟨W.heap.size, a * 4, none⟩) hszq]; exact f0
          have f1A : ((wr.alloc (.cells #[.int .i64 xp, .int .i64 xe] 71)).alloc (.cells #[.bool bex, .int .i64 bln, .int .i64 bph, .int .i64 bnx] 95)).cell? ⟨W.heap.size, a * 4 + 1, none⟩ = some (.int .i64 aln) := by rw [hbA.cell (p := ⟨W.heap.size, a * 4 + 1, none⟩) hszq]; exact f1
          have hszW : W.heap.size < ((wr.alloc (.cells #[.int .i64 xp, .int .i64 xe] 71)).alloc (.cells #[.bool bex, .int .i64 bln, .int .i64 bph, .int .i64 bnx] 95)).heap.size := by simp; omega
          have hsB1 : wr.heap.size + 1 < ((wr.alloc (.cells #[.int .i64 xp, .int .i64 xe] 71)).alloc (.cells #[.bool bex, .int .i64 bln, .int .i64 bph, .int .i64 bnx] 95)).heap.size := by simp
          have hpI : (xp : Int) < (np : Int) := by omega
          have haI : (a : Int) < (m : Int) := by omega
          have heI : (xe : Int) < (m : Int) := by omega
          clear hacc hbh hsn hx hsl
          go_wp2_with fail
          clear hrow e0 e1 e2 e3 f0 f1 hd0 hd1 hf0' hf1' hblq
          generalize ((wr.alloc (.cells #[.int .i64 xp, .int .i64 xe] 71)).alloc (.cells #[.bool bex, .int .i64 bln, .int .i64 bph, .int .i64 bnx] 95)) = W2 at *
          generalize wr.heap.size = BX at *
          go_quiet (fail)
          have hbD := below_drewN (Below.refl W2.heap.size W2) nq
          have HRD := Lib.hid (HRA.out.later hbD)
          have hblD := hblA.trans (hbD.mono hblA.size)
          have hszD : W.heap.size < (W2.drewN nq).heap.size := by simpa using hszW
          have t8a : (W2.drewN nq).cell? ⟨BX, 0, none⟩ = some (.int .i64 xp) := by rw [hbD.cell (p := ⟨BX, 0, none⟩) (by show BX < _; omega)]; exact x8a
          have t8b : (W2.drewN nq).cell? ⟨BX, 1, none⟩ = some (.int .i64 xe) := by rw [hbD.cell (p := ⟨BX, 1, none⟩) (by show BX < _; omega)]; exact x8b
          have t9a : (W2.drewN nq).cell? ⟨BX + 1, 0, none⟩ = some (.bool bex) := by rw [hbD.cell (p := ⟨BX + 1, 0, none⟩) hsB1]; exact x9a
          have t9b : (W2.drewN nq).cell? ⟨BX + 1, 1, none⟩ = some (.int .i64 bln) := by rw [hbD.cell (p := ⟨BX + 1, 1, none⟩) hsB1]; exact x9b
          have tf0 : (W2.drewN nq).cell? ⟨W.heap.size, a * 4, none⟩ = some (.bool aex) := by rw [hbD.cell (p := ⟨W.heap.size, a * 4, none⟩) hszW]; exact f0A
          have tf1 : (W2.drewN nq).cell? ⟨W.heap.size, a * 4 + 1, none⟩ = some (.int .i64 aln) := by rw [hbD.cell (p := ⟨W.heap.size, a * 4 + 1, none⟩) hszW]; exact f1A
          clear x8a x8b x9a x9b f0A f1A hxA hfA
          generalize W2.drewN nq = W3 at *
          have g0 := HRD.out.frozen (a * 4)
          have g1 := HRD.out.frozen (a * 4 + 1)
          have g2' := HRD.out.frozen (a * 4 + 2)
          have g3 := HRD.out.frozen (a * 4 + 3)
          have tf2 : W3.cell? ⟨W.heap.size, a * 4 + 2, none⟩ = some (.int .i64 aph) := by
            have h := HRD.out.at_ (a * 4 + 2) (by omega)
            rw [restRow_at _ _ _ (by omega), if_neg (Nat.lt_irrefl _), if_pos rfl, ← HAA.out] at h; exact h
          have tf3 : W3.cell? ⟨W.heap.size, a * 4 + 3, none⟩ = some (.int .i64 anx) := by
            have h := HRD.out.at_ (a * 4 + 3) (by omega)
            rw [restRow_at _ _ _ (by omega), if_neg (Nat.lt_irrefl _), if_pos rfl, ← HAA.out] at h; exact h
          obtain ⟨nl, hnl⟩ : ∃ nl, nl = wrap64 ((sl : Int) + bln) := ⟨_, rfl⟩
          have HNL := Lib.hid hnl
          have HSTEP : Hid (foldR ps r ((ss a).take (q + 1)) = if bex = true ∧ (aex = false ∨ nl < aln) then ⟨true, nl, xp, xe⟩ else ⟨aex, aln, aph, anx⟩) := Lib.hid (by
            rw [HSN.out, foldR_snoc, ← HAA.out]; unfold stepR; rw [← HBH.out, ← HSL.out, ← HNL.out])
          have HSKIP : Hid (¬ (bex = true ∧ (aex = false ∨ nl < aln)) → RowF W3 W.heap.size 95 4 (.slice (some ⟨W.heap.size, 0, none⟩) m m) m (restRow fun j => if a < j then r j else if j = a then foldR ps r ((ss a).take (q + 1)) else noRst)) := Lib.hid fun hno => by
            rw [HSTEP.out, if_neg hno, HAA.out]; exact HRD.out
          have HTAKE : Hid ((bex = true ∧ (aex = false ∨ nl < aln)) → RowF ((((W3.setCell ⟨W.heap.size, a * 4, none⟩ (.bool true)).setCell ⟨W.heap.size, a * 4 + 1, none⟩ (.int .i64 nl)).setCell ⟨W.heap.size, a * 4 + 2, none⟩ (.int .i64 xp)).setCell ⟨W.heap.size, a * 4 + 3, none⟩ (.int .i64 xe)) W.heap.size 95 4 (.slice (some ⟨W.heap.size, 0, none⟩) m m) m (restRow fun j => if a < j then r j else if j = a then foldR ps r ((ss a).take (q + 1)) else noRst)) := Lib.hid fun hyes => by
            rw [HSTEP.out, if_pos hyes]
            refine ((((HRD.out.put _ _).1.put _ _).1.put _ _).1.put _ _).1.congr fun j hj => ?_
            refine (restRow_put (fun j => if a < j then r j else if j = a then foldR ps r ((ss a).take q) else noRst) a ⟨true, nl, xp, xe⟩ j).trans ?_
            show cRst (if j / 4 = a then _ else _) _ = cRst (if a < j / 4 then _ else if j / 4 = a then _ else _) _
            by_cases e : j / 4 = a
            · rw [if_pos e, if_neg (by omega), if_pos e]
            · rw [if_neg e]
              by_cases h1 : a < j / 4
              · rw [if_pos h1, if_pos h1]
              · rw [if_neg h1, if_neg h1, if_neg e, if_neg e]
          clear HRA HRD
          cases bex with
          | false =>
            clear hnl
            go_wp2
            go_roundw
            case rel => exact ⟨q + 1, by omega, by go_num, HSKIP.out (by simp), hblD, hszD⟩
            case measure => simp [intOf]; omega
          | true =>
            clear hnl
            cases aex with
            | false =>
              go_wp2
              go_roundw
              case rel =>
                have h := HTAKE.out ⟨rfl, .inl rfl⟩
                rw [HNL.out] at h
                exact ⟨q + 1, by omega, by go_num, h, (((hblD.setCell (p := ⟨W.heap.size, a * 4, none⟩) (Nat.le_refl _) _).setCell (p := ⟨W.heap.size, a * 4 + 1, none⟩) (Nat.le_refl _) _).setCell (p := ⟨W.heap.size, a * 4 + 2, none⟩) (Nat.le_refl _) _).setCell (p := ⟨W.heap.size, a * 4 + 3, none⟩) (Nat.le_refl _) _, by simpa using hszD⟩
              case measure => simp [intOf]; omega
            | true =>
              by_cases hcmp : wrap64 ((sl : Int) + bln) < aln
              · have HY : Hid (nl < aln) := Lib.hid (by rw [HNL.out]; exact hcmp)
                go_wp2
                go_roundw
                case rel =>
                  have h := HTAKE.out ⟨rfl, .inr HY.out⟩
                  rw [HNL.out] at h
                  exact ⟨q + 1, by omega, by go_num, h, (((hblD.setCell (p := ⟨W.heap.size, a * 4, none⟩) (Nat.le_refl _) _).setCell (p := ⟨W.heap.size, a * 4 + 1, none⟩) (Nat.le_refl _) _).setCell (p := ⟨W.heap.size, a * 4 + 2, none⟩) (Nat.le_refl _) _).setCell (p := ⟨W.heap.size, a * 4 + 3, none⟩) (Nat.le_refl _) _, by simpa using hszD⟩
                case measure => simp [intOf]; omega
              · have HNO : Hid (¬ (true = true ∧ (true = false ∨ nl < aln))) := Lib.hid (by rw [HNL.out]; simp; omega)
                go_wp2
                go_roundw
                case rel => exact ⟨q + 1, by omega, by go_num, HSKIP.out HNO.out, hblD, hszD⟩
                case measure => simp [intOf]; omega
        · have : q = len := by omega
          subst this
          have HR3 : Hid (RowF wr W.heap.size 95 4 (.slice (some ⟨W.heap.size, 0, none⟩) m m) m (restRow fun j => if a ≤ j then r j else noRst)) := Lib.hid (hrow.congr fun j hj => by
            show cRst (if a < j / 4 then r (j / 4) else if j / 4 = a then foldR ps r ((ss a).take q) else noRst) (j % 4) = cRst (if a ≤ j / 4 then r (j / 4) else noRst) (j % 4)
            by_cases h1 : a < j / 4
            · rw [if_pos h1, if_pos (by omega)]
            · rw [if_neg h1]
              by_cases h2 : j / 4 = a
              · rw [if_pos h2, if_pos (by omega), h2, HLEN.out, List.take_length, HF.out.2 _ ha1]
              · rw [if_neg h2, if_neg (by omega)])
          clear hrow
          go_wp2
          go_roundw
          case rel => exact ⟨a, (a : Int) - 1, by omega, rfl, Lib.hid rfl, HR3.out, hblq, hszq⟩
          case measure => simp [intOf]
end Go.Proofs.Ytpogpehbkgjiaaa
