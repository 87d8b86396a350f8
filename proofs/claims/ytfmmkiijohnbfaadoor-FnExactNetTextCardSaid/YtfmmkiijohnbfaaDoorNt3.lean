/- Texts of nets: rows of nodes (values of an interface type), by the program. Written by a generator of this claim's author. -/
import Derived.Test.YtfmmkiijohnbfaaDoorNt2
import Derived.Handy
namespace Go.Proofs.YtfmmkiijohnbfaaDoor
open Go.RowKit
set_option linter.unusedSimpArgs false
set_option linter.unusedVariables false

theorem Tryd_info_node : (Tryd.prog.info? 53).map (fun i => (i.zero, i.size, i.bytes)) = some (some .nilIface, 1, 16) := by kernel_rfl
/-- A node as it lies: its type and its three numbers. -/
def agT (x : T3) : Value := .agg #[.int .i64 x.x0, .int .i64 x.x1, .int .i64 x.x2]
def ndV (p : Bool × T3) : Value := .iface (if p.1 then 69 else 71) (agT p.2)
def cN (p : Bool × T3) (_ : Nat) : Value := ndV p
theorem flatN (l : List (Bool × T3)) : flatR cN 1 l = l.map ndV := by
  induction l with
  | nil => rfl
  | cons p l ih => rw [flatR_cons, ih]; rfl
/-- The first k nodes. -/
def nds (ts ls : List T3) (k : Nat) : List (Bool × T3) := (List.range k).map fun i => (ndB ts i, ndX ts ls i)
theorem nds_len (ts ls : List T3) (k : Nat) : (nds ts ls k).length = k := by simp [nds]
theorem nds_succ (ts ls : List T3) (k : Nat) : nds ts ls (k + 1) = nds ts ls k ++ [(ndB ts k, ndX ts ls k)] := by simp [nds, List.range_succ]
theorem nds_at (ts ls : List T3) {n k : Nat} (h : k < n) : rAt (nds ts ls n) k = (ndB ts k, ndX ts ls k) := by
  rw [rAt_eq (by rw [nds_len]; exact h)]; simp [nds]
abbrev OwnD (w : World) (B : Nat) (v : Value) (l : List (Bool × T3)) : Prop := OwnR 53 cN 1 w B v l
theorem append_node {w : World} {ops : Array Oper} {rest : List Oper} {o : Oper} {a : Act} {Q : Exit → Act → World → Prop} (hgd : o.guard = none) (s x : Operand)
    (ho : o.op = .call { callee := .builtin .append, args := #[s, x], argTypes := #[50, 50] })
    (B : Nat) (v : Value) (l : List (Bool × T3)) (p : Bool × T3) (h : Nat) (hs : a.eval s = v) (hx : a.eval x = .slice (some ⟨h, 0, none⟩) 1 1)
    (hown : OwnD w B v l) (hcell : w.cell? ⟨h, 0, none⟩ = some (ndV p)) (hlen : l.length ≤ 1099511627776) (hB : B ≤ w.heap.size)
    (hK : ∀ v' w', OwnD w' B v' (l ++ [p]) → w.grownBy w' v.ownBlock → wpList Tryd.prog ops Q rest (a.put o.dst v') w') : wpList Tryd.prog ops Q (o :: rest) a w := by
  obtain ⟨i0, hi, hz0, hz1, hz2⟩ := info_parts Tryd_info_node
  unfold OwnD OwnR at hown
  rw [flatN] at hown
  refine wpList_append_own w hgd s x 50 ho B 53 i0 .nilIface 1 16 Tryd.underlying50 hi hz0 hz1 hz2 rfl (by decide) v l.length (l.map ndV) hs hown
    ⟨h, 0, none⟩ 1 1 [ndV p] hx rfl ?_ ?_ (by unfold maxLen; omega) (by omega) hB ?_
  · intro j u hj
    match j, hj with
    | 0, hj => simp at hj; subst hj; simpa [Addr.add] using hcell
  · intro u hu; simp at hu; subst hu; rfl
  · intro v' w' h1 h2 _
    refine hK v' w' ?_ h2
    unfold OwnD OwnR
    rw [flatN]
    simpa using h1
theorem mkI_tow (x : T3) (w : World) : (Instr.makeInterface 69 (.agg #[.int .i64 x.x0, .int .i64 x.x1, .int .i64 x.x2])).run Tryd.prog w = .ok (.iface 69 (.agg #[.int .i64 x.x0, .int .i64 x.x1, .int .i64 x.x2])) w := run_makeInterface w _ _ (by kernel_rfl)
theorem mkI_lnk (x : T3) (w : World) : (Instr.makeInterface 71 (.agg #[.int .i64 x.x0, .int .i64 x.x1, .int .i64 x.x2])).run Tryd.prog w = .ok (.iface 71 (.agg #[.int .i64 x.x0, .int .i64 x.x1, .int .i64 x.x2])) w := run_makeInterface w _ _ (by kernel_rfl)
theorem NB.grownD {w W W' : World} {a0 a1 : Option Addr} {n p0 m p1 : Nat} {ts ls : List T3} {v : Value} {l : List (Bool × T3)} (h : NB w W a0 n p0 a1 m p1 ts ls) (h0 : RdN w (.slice a0 n p0) (.slice a1 m p1) ts ls) (ho : OwnD W (w.heap.size + 1) v l) (hg : W.grownBy W' v.ownBlock) : NB w W' a0 n p0 a1 m p1 ts ls :=
  have hb : Below (w.heap.size + 1) W W' := (Below.refl _ _).grown hg h.lt (fun k hk => (ho.lt k hk).1)
  have hb' := h.below.trans (hb.mono (Nat.le_succ _))
  ⟨hb', Nat.lt_of_lt_of_le h.lt hb.size, by rw [hb.cell (p := ⟨w.heap.size, 0, none⟩) (Nat.lt_succ_self _)]; exact h.b0, by rw [hb.cell (p := ⟨w.heap.size, 1, none⟩) (Nat.lt_succ_self _)]; exact h.b1, h0.below hb' (Nat.le_refl _)⟩

set_option maxRecDepth 100000 in
set_option maxHeartbeats 1600000 in
theorem nodesOf_any (c0 c1 : Value) (ts ls : List T3) (w : World) (hr : RdN w c0 c1 ts ls) (hl16 : ts.length ≤ 16) (hl40 : ls.length ≤ 40) :
    Calls Tryd.prog 21 #[.agg #[c0, c1]] w fun e w' => ∃ v, e = .returned v ∧ OwnD w' (w.heap.size + 1) v (nds ts ls (ts.length + ls.length)) ∧ Below w.heap.size w w' := by
  have hdB : ∀ k, k < ts.length → (ndB ts k = true ∧ ndX ts ls k = rAt ts k) := fun k hk => ⟨decide_eq_true hk, if_pos hk⟩
  have hdL : ∀ k, (ndB ts (ts.length + k) = false ∧ ndX ts ls (ts.length + k) = rAt ls k) := fun k => ⟨decide_eq_false (by omega), by unfold ndX; rw [if_neg (by omega), show ts.length + k - ts.length = k by omega]⟩
  obtain ⟨a0, p0, rfl, hc0⟩ := hr.1.len
  obtain ⟨a1, p1, rfl, hc1⟩ := hr.2.len
  obtain ⟨n, hn⟩ : ∃ n, n = ts.length := ⟨_, rfl⟩
  obtain ⟨m, hm⟩ : ∃ m, m = ls.length := ⟨_, rfl⟩
  have HN := Lib.hid hn
  have HM := Lib.hid hm
  have HDB := Lib.hid hdB
  have HDL := Lib.hid hdL
  rw [← hn] at hc0 hr hl16
  rw [← hm] at hc1 hr hl40
  rw [← hn, ← hm]
  have N0 := NB.start hr 32
  have HR := Lib.hid hr
  clear hn hm hr hdB hdL
  have h0 := N0.b0
  have h1 := N0.b1
  go_enter Tryd.func21, Tryd.ntmps21
  go_wp2_with fail
  go_loopw [3, 11] (fun s i wr => ∃ (k : Nat) (sv : Value), k ≤ n ∧ i = .int .i64 k ∧ sv = s ∧ OwnD wr (w.heap.size + 1) sv (nds ts ls (k)) ∧ NB w wr a0 n p0 a1 m p1 ts ls) (fun s i wr => n - (intOf i).toNat)
  case atStart => exact ⟨0, _, Nat.zero_le _, rfl, rfl, OwnR.nil _ _, N0⟩
  case round =>
    obtain ⟨k, sv, hk, rfl, rfl, hown, hN⟩ := hrel
    have h0 := hN.b0
    have h1 := hN.b1
    by_cases hlt : k < n
    · obtain ⟨g, off, rfl, hg, q0, q1, q2⟩ := hN.rd.1.at3 (by first | exact HN.out | exact HM.out) k hlt
      have hlen : (nds ts ls (k)).length ≤ 1099511627776 := by rw [nds_len]; omega
      have hst : Hid (nds ts ls (k + 1) = nds ts ls (k) ++ [(true, rAt ts k)]) := Lib.hid (by
        obtain ⟨e1, e2⟩ := HDB.out k (by rw [← HN.out]; exact hlt)
        rw [nds_succ, e1, e2])
      generalize nds ts ls (k) = l0 at *
      have NX := hN.alloc (.cells #[.int .i64 (rAt ts k).x0, .int .i64 (rAt ts k).x1, .int .i64 (rAt ts k).x2] 69)
      have hoX := hown.alloc (.cells #[.int .i64 (rAt ts k).x0, .int .i64 (rAt ts k).x1, .int .i64 (rAt ts k).x2] 69)
      generalize rAt ts k = x at *
      have mk := mkI_tow x
      have NY := NX.alloc (.cells #[.iface 69 (.agg #[.int .i64 x.x0, .int .i64 x.x1, .int .i64 x.x2])] 53)
      have hoY := hoX.alloc (.cells #[.iface 69 (.agg #[.int .i64 x.x0, .int .i64 x.x1, .int .i64 x.x2])] 53)
      have HNY := Lib.hid (fun v' w2 (hg : ((wr.alloc (.cells #[.int .i64 x.x0, .int .i64 x.x1, .int .i64 x.x2] 69)).alloc (.cells #[.iface 69 (.agg #[.int .i64 x.x0, .int .i64 x.x1, .int .i64 x.x2])] 53)).grownBy w2 v') (e : v' = sv.ownBlock) => NY.grownD HR.out hoY (e ▸ hg))
      go_wp2_with (at_builtin; refine append_node rfl _ _ rfl (w.heap.size + 1) _ l0 (true, x) (wr.heap.size + 1) rfl (by simp [go_sem]) hoY (by simp [go_sem, ndV, agT]) hlen (by have := NY.lt; simp at this ⊢; omega) ?_; intro v' w2 hown2 hgrow2)
      go_roundw
      case rel => exact ⟨k + 1, _, by omega, by go_num, rfl, by rw [show (k + 1) = k + 1 by omega, hst.out]; exact hown2, HNY.out _ _ hgrow2 rfl⟩
      case measure => simp [intOf]; omega
    · obtain rfl : n = k := by omega
      go_wp2_with fail
      go_loopw [3, 24] (fun s i wr => ∃ (k : Nat) (sv : Value), k ≤ m ∧ i = .int .i64 k ∧ sv = s ∧ OwnD wr (w.heap.size + 1) sv (nds ts ls (n + k)) ∧ NB w wr a0 n p0 a1 m p1 ts ls) (fun s i wr => m - (intOf i).toNat)
      case atStart => exact ⟨0, _, Nat.zero_le _, rfl, rfl, hown, hN⟩
      case round =>
        obtain ⟨k, sv, hk, rfl, rfl, hown, hN⟩ := hrel
        have h0 := hN.b0
        have h1 := hN.b1
        by_cases hlt : k < m
        · obtain ⟨g, off, rfl, hg, q0, q1, q2⟩ := hN.rd.2.at3 (by first | exact HN.out | exact HM.out) k hlt
          have hlen : (nds ts ls (n + k)).length ≤ 1099511627776 := by rw [nds_len]; omega
          have hst : Hid (nds ts ls (n + k + 1) = nds ts ls (n + k) ++ [(false, rAt ls k)]) := Lib.hid (by
            obtain ⟨e1, e2⟩ := (show ndB ts (n + k) = false ∧ ndX ts ls (n + k) = rAt ls k by rw [HN.out]; exact HDL.out k)
            rw [nds_succ, e1, e2])
          generalize nds ts ls (n + k) = l0 at *
          have NX := hN.alloc (.cells #[.int .i64 (rAt ls k).x0, .int .i64 (rAt ls k).x1, .int .i64 (rAt ls k).x2] 71)
          have hoX := hown.alloc (.cells #[.int .i64 (rAt ls k).x0, .int .i64 (rAt ls k).x1, .int .i64 (rAt ls k).x2] 71)
          generalize rAt ls k = x at *
          have mk := mkI_lnk x
          have NY := NX.alloc (.cells #[.iface 71 (.agg #[.int .i64 x.x0, .int .i64 x.x1, .int .i64 x.x2])] 53)
          have hoY := hoX.alloc (.cells #[.iface 71 (.agg #[.int .i64 x.x0, .int .i64 x.x1, .int .i64 x.x2])] 53)
          have HNY := Lib.hid (fun v' w2 (hg : ((wr.alloc (.cells #[.int .i64 x.x0, .int .i64 x.x1, .int .i64 x.x2] 71)).alloc (.cells #[.iface 71 (.agg #[.int .i64 x.x0, .int .i64 x.x1, .int .i64 x.x2])] 53)).grownBy w2 v') (e : v' = sv.ownBlock) => NY.grownD HR.out hoY (e ▸ hg))
          go_wp2_with (at_builtin; refine append_node rfl _ _ rfl (w.heap.size + 1) _ l0 (false, x) (wr.heap.size + 1) rfl (by simp [go_sem]) hoY (by simp [go_sem, ndV, agT]) hlen (by have := NY.lt; simp at this ⊢; omega) ?_; intro v' w2 hown2 hgrow2)
          go_roundw
          case rel => exact ⟨k + 1, _, by omega, by go_num, rfl, by rw [show n + (k + 1) = n + k + 1 by omega, hst.out]; exact hown2, HNY.out _ _ hgrow2 rfl⟩
          case measure => simp [intOf]; omega
        · obtain rfl : m = k := by omega
          go_wp2
          go_ret
          exact ⟨_, rfl, hown, hN.below⟩
end Go.Proofs.YtfmmkiijohnbfaaDoor
