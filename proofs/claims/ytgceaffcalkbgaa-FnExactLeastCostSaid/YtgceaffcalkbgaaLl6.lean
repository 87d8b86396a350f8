/- Chapter 4: the model's new table, walked. -/
import Derived.Test.YtgceaffcalkbgaaLl5
import Derived.BigRegion
namespace Go.Proofs.Ytgceaffcalkbgaa
open Go.RowKit
set_option linter.unusedSimpArgs false
set_option linter.unusedVariables false

theorem row_some {w : World} {B : Nat} {e : TypeId} {s n : Nat} {v : Value} {xs : List Value} (h : w.ownsRow B e s v (n + 1) xs) : ∃ g cap, v = .slice (some ⟨g, 0, none⟩) (n + 1) cap := by
  rcases h.2 with ⟨-, hz⟩ | ⟨g, cap, _, hv, _⟩
  · omega
  · exact ⟨g, cap, hv⟩
set_option maxRecDepth 100000 in
set_option maxHeartbeats 4000000 in
theorem cmNew_any (v : Value) (S : List Int) (R lim : Nat) (w : World) (hS : SmW S) (hR : R ≤ 60) (hlim : lim ≤ 6) (hr : Rd w v S) :
    Calls Try.prog 94 #[v, .int .i64 (R : Int), .int .i64 (lim : Int)] w fun e w' => ∃ (t : Nat) (A : TbA), e = .returned (.pointer (some ⟨t, 0, none⟩)) ∧ Tb w' t S R lim w.heap.size w'.heap.size A ∧ Below w.heap.size w w' := by
  obtain ⟨i0, hi, hz0, hz1, hz2⟩ := info_parts Try_info_int
  obtain ⟨a1, c1, rfl⟩ := hr.len
  have h20 := hS.1
  obtain ⟨n, hn⟩ : ∃ n, n = S.length := ⟨_, rfl⟩
  have HS := Lib.hid hS
  have H1 := Lib.hid hr
  have HN := Lib.hid hn
  rw [← hn] at h20 ⊢
  clear hr hn hS
  go_enter Try.func94, Try.ntmps94
  go_wp2_with (refine wpList_make_full _ rfl _ _ 23 rfl w.heap.size 3 i0 (.int .i64 0) 1 Try.underlying23 hi hz0 hz1 .i64 .i64 _ _ (n + 1) rfl rfl rfl rfl (by rw [hz2]; omega) (by unfold maxLen; omega) (Nat.le_refl _) ?_; intro w1 hown1 hgrow1)
  obtain ⟨b, hb⟩ : ∃ b, b = w.heap.size := ⟨_, rfl⟩
  obtain ⟨t, ht⟩ : ∃ t, t = w1.heap.size := ⟨_, rfl⟩
  have hOw : Own w1 b (.slice (some ⟨b, 0, none⟩) (n + 1) (n + 1)) (List.replicate (n + 1) 0) := by rw [hb]; exact Own.zeros hown1
  have hb1 : Below b w w1 := by rw [hb]; exact (Below.refl _ _).grown hgrow1 (Nat.le_refl _) (fun k h => by cases h)
  have hbt : b < t := by rw [ht]; exact (hOw.lt _ rfl).2
  rw [← hb, ← ht]
  have hbs := hb1.size
  have h0 : Hid (Own (w1.alloc (.cells #[.slice (some ⟨b, 0, none⟩) (n + 1) (n + 1), .int .i64 (R : Int), .int .i64 (lim : Int), .slice none 0 0] 96)) b (.slice (some ⟨b, 0, none⟩) (n + 1) (n + 1)) (restL S n) ∧
      (w1.alloc (.cells #[.slice (some ⟨b, 0, none⟩) (n + 1) (n + 1), .int .i64 (R : Int), .int .i64 (lim : Int), .slice none 0 0] 96)).cell? ⟨t, 0, none⟩ = some (.slice (some ⟨b, 0, none⟩) (n + 1) (n + 1)) ∧
      (w1.alloc (.cells #[.slice (some ⟨b, 0, none⟩) (n + 1) (n + 1), .int .i64 (R : Int), .int .i64 (lim : Int), .slice none 0 0] 96)).cell? ⟨t, 1, none⟩ = some (.int .i64 (R : Int)) ∧
      (w1.alloc (.cells #[.slice (some ⟨b, 0, none⟩) (n + 1) (n + 1), .int .i64 (R : Int), .int .i64 (lim : Int), .slice none 0 0] 96)).cell? ⟨t, 2, none⟩ = some (.int .i64 (lim : Int)) ∧
      (w1.alloc (.cells #[.slice (some ⟨b, 0, none⟩) (n + 1) (n + 1), .int .i64 (R : Int), .int .i64 (lim : Int), .slice none 0 0] 96)).cell? ⟨t, 3, none⟩ = some (.slice none 0 0) ∧
      (w1.alloc (.cells #[.slice (some ⟨b, 0, none⟩) (n + 1) (n + 1), .int .i64 (R : Int), .int .i64 (lim : Int), .slice none 0 0] 96)).frozen? ⟨t, 3, none⟩ = false ∧
      Below b w (w1.alloc (.cells #[.slice (some ⟨b, 0, none⟩) (n + 1) (n + 1), .int .i64 (R : Int), .int .i64 (lim : Int), .slice none 0 0] 96))) := Lib.hid (by
    refine ⟨?_, ?_, ?_, ?_, ?_, ?_, ?_⟩
    · have e := restL_all S
      rw [← HN.out] at e
      rw [e]
      exact hOw.alloc _
    · rw [ht]; simp [go_sem]
    · rw [ht]; simp [go_sem]
    · rw [ht]; simp [go_sem]
    · rw [ht]; simp [go_sem]
    · rw [ht]; simp [go_sem]
    · exact hb1.alloc (by rw [hb]; exact hbs) _)
  have HB := Lib.hid hb
  clear hown1 hgrow1 hOw hb1 hbs hb
  generalize w1.alloc (.cells #[.slice (some ⟨b, 0, none⟩) (n + 1) (n + 1), .int .i64 (R : Int), .int .i64 (lim : Int), .slice none 0 0] 96) = W1 at *
  clear ht
  go_loopw [8] (fun i wr => ∃ k : Nat, k ≤ n ∧ i = .int .i64 ((k : Int) - 1) ∧ Hid (Own wr b (.slice (some ⟨b, 0, none⟩) (n + 1) (n + 1)) (restL S k) ∧ wr.cell? ⟨t, 0, none⟩ = some (.slice (some ⟨b, 0, none⟩) (n + 1) (n + 1)) ∧
      wr.cell? ⟨t, 1, none⟩ = some (.int .i64 (R : Int)) ∧ wr.cell? ⟨t, 2, none⟩ = some (.int .i64 (lim : Int)) ∧ wr.cell? ⟨t, 3, none⟩ = some (.slice none 0 0) ∧ wr.frozen? ⟨t, 3, none⟩ = false ∧ Below b w wr)) (fun i wr => (intOf i + 1).toNat)
  case atStart => exact ⟨n, Nat.le_refl _, by go_num, h0⟩
  case round =>
    obtain ⟨k, hk, rfl, hh⟩ := hrel
    cases k with
    | zero =>
      have e : ((0 : Nat) : Int) - 1 = -1 := rfl
      obtain ⟨o0, x0, x1, x2, x3, x4, hbl⟩ := hh.out
      have htw : t < wr.heap.size := World.block_lt_of_cell? wr _ x0
      have HL0 : Hid (∃ kv vs Bl, Lv wr b t S R lim 0 kv vs Bl ∧ Below b w wr) := Lib.hid (by
        rw [HN.out] at o0 x0
        exact ⟨_, _, _, Lv.start hbt htw x0 x1 x2 x3 x4 (o0.base (Nat.zero_le _)), hbl⟩)
      rw [e]
      clear e o0 x0 x1 x2 x3 x4 hbl htw hh
      go_wp2
      go_loopw [9] (fun i wr => ∃ k : Nat, k ≤ lim + 1 ∧ i = .int .i64 k ∧ Hid (∃ kv vs Bl, Lv wr b t S R lim k kv vs Bl ∧ Below b w wr)) (fun i wr => lim + 1 - (intOf i).toNat)
      case atStart => exact ⟨0, Nat.zero_le _, rfl, HL0⟩
      case round =>
        obtain ⟨k, hk, rfl, hLv⟩ := hrel
        obtain ⟨kv, vs, Bl, hL, hbl⟩ := hLv.out
        clear hLv
        by_cases hkl : k ≤ lim
        · obtain ⟨ws, hws⟩ : ∃ ws, ws = wr := ⟨_, rfl⟩
          subst hws
          have HL := Lib.hid hL
          have HBL := Lib.hid hbl
          clear hL hbl
          go_wp2
          go_loopw [10, 11] (fun v i wq => ∃ j : Nat, j ≤ n + 1 ∧ i = .int .i64 j ∧ Hid (OwnJ wq ws.heap.size wq.heap.size v (zlev n j) ∧ Below ws.heap.size ws wq)) (fun v i wq => n + 1 - (intOf i).toNat)
          case atStart => exact ⟨0, Nat.zero_le _, rfl, Lib.hid ⟨OwnJ.nil _ _ _, Below.refl _ _⟩⟩
          case round =>
            obtain ⟨j, hj, rfl, hq⟩ := hrel
            by_cases hjn : j ≤ n
            · obtain ⟨hown, hbq⟩ := hq.out
              obtain ⟨av, cv, hv⟩ := hown.len
              subst hv
              have hbs := hbq.size
              have HQ : Hid (∀ w2 : World, w2.ownsRow wr.heap.size 3 1 (.slice (some ⟨wr.heap.size, 0, none⟩) (n + 1) (n + 1)) (n + 1) (madeCells (Value.int .i64 0).cells ((n + 1) * 1)).toList → wr.grownBy w2 none →
                  OwnJ (w2.alloc (.cells #[.slice (some ⟨wr.heap.size, 0, none⟩) (n + 1) (n + 1)] 23)) ws.heap.size wr.heap.size (.slice av (zlev n j).length cv) (zlev n j) ∧ OwnI (w2.alloc (.cells #[.slice (some ⟨wr.heap.size, 0, none⟩) (n + 1) (n + 1)] 23)) wr.heap.size w2.heap.size (.slice (some ⟨wr.heap.size, 0, none⟩) (n + 1) (n + 1)) (zrow n) ∧
                  Below ws.heap.size ws (w2.alloc (.cells #[.slice (some ⟨wr.heap.size, 0, none⟩) (n + 1) (n + 1)] 23)) ∧ wr.heap.size ≤ w2.heap.size) := Lib.hid fun w2 h1 h2 => by
                have b2 : Below wr.heap.size wr w2 := (Below.refl _ _).grown h2 (Nat.le_refl _) (fun k h => by cases h)
                refine ⟨hown.later (b2.alloc b2.size _), (OwnI.later (Own.iv (Own.zeros h1)) ((Below.refl _ w2).alloc (Nat.le_refl _) _)), (hbq.trans (b2.mono hbs)).alloc (by have := b2.size; omega) _, b2.size⟩
              have hlz : (zlev n j).length = j := by simp [zlev]
              rw [hlz] at HQ ⊢
              have HM : Hid (∀ w v, OwnJ w ws.heap.size w.heap.size v (zlev n j ++ [zrow n]) → OwnJ w ws.heap.size w.heap.size v (zlev n (j + 1))) := Lib.hid fun w v h => by rw [← zlev_more]; exact h
              have HLT : Hid (∀ k, (Value.slice av j cv).ownBlock = some k → ws.heap.size ≤ k) := Lib.hid fun k hk => by
                rw [← hlz] at hk
                exact (hown.lt k hk).1
              have HLZ := Lib.hid hlz
              clear hown hbq hq hlz
              go_wp2_with (first
                | (refine wpList_make_full _ rfl _ _ 23 rfl wr.heap.size 3 i0 (.int .i64 0) 1 Try.underlying23 hi hz0 hz1 .i64 .i64 _ _ (n + 1) rfl rfl rfl rfl (by rw [hz2]; omega) (by unfold maxLen; omega) (Nat.le_refl _) ?_; intro w2 hown2 hg2; have hQ := HQ.out w2 hown2 hg2; clear hown2 hg2)
                | (at_builtin; refine append_lists rfl _ _ rfl ws.heap.size wr.heap.size wr.heap.size w2.heap.size _ (zlev n j) (zrow n) _ w2.heap.size rfl rfl hQ.1 (new_cell _ _ _) hQ.2.1 hbs (Nat.le_refl _) (by simp) (by simp; omega) (by simp; omega) (by rw [HLZ.out]; omega) ?_; intro v3 w3 ho3 hg3))
              have hb3 := hQ.2.2.1.grown hg3 hQ.2.2.1.size HLT.out
              have HF := Lib.hid (And.intro (HM.out _ _ ho3) hb3)
              clear ho3 hg3 hb3 hQ
              go_roundw
              case rel => exact ⟨j + 1, by omega, by go_num, HF⟩
              case measure => simp [intOf]; omega
            · have : j = n + 1 := by omega
              subst this
              obtain ⟨hown, hbq⟩ := hq.out
              obtain ⟨av, cv, hv⟩ := hown.len
              rw [show (zlev n (n + 1)).length = n + 1 by simp [zlev]] at hv
              subst hv
              have hLq := HL.out.later hbq
              have c3 := hLq.c3
              have hsz := hbq.size
              have hrow : Hid ((wr.alloc (.cells #[.slice av (n + 1) cv] 42)).ownsRow (t + 1) 42 1 kv k ((List.range k).map vs)) := Lib.hid ((hLq.later ((Below.refl _ _).alloc (Nat.le_refl _) _)).kr)
              have htB : t + 1 ≤ ws.heap.size := World.block_lt_of_cell? ws _ HL.out.c0
              have HFIN : Hid (∀ (kv' : Value) (w2 : World), w2.ownsRow (t + 1) 42 1 kv' (k + 1) ((List.range (k + 1)).map fun i => if i < k then vs i else .slice av (n + 1) cv) → (wr.alloc (.cells #[.slice av (n + 1) cv] 42)).grownBy w2 kv.ownBlock →
                  (w2.cell? ⟨t, 3, none⟩ = some kv ∧ w2.frozen? ⟨t, 3, none⟩ = false) ∧ ∃ kv'' vs Bl, Lv (w2.setCell ⟨t, 3, none⟩ kv') b t S R lim (k + 1) kv'' vs Bl ∧ Below b w (w2.setCell ⟨t, 3, none⟩ kv')) := Lib.hid fun kv' w2 h1 h2 => by
                have hL2 := hLq.later ((Below.refl _ _).alloc (Nat.le_refl _) (.cells #[.slice av (n + 1) cv] 42))
                have hown2 : OwnJ (wr.alloc (.cells #[.slice av (n + 1) cv] 42)) ws.heap.size (wr.alloc (.cells #[.slice av (n + 1) cv] 42)).heap.size (.slice av (n + 1) cv) (zlev S.length (S.length + 1)) := by
                  rw [← HN.out]
                  exact (hown.later ((Below.refl _ _).alloc (Nat.le_refl _) _)).wide (Nat.le_refl _) (by simp)
                have hbw := HBL.out.size
                have hbA : Below b w (wr.alloc (.cells #[.slice av (n + 1) cv] 42)) := (HBL.out.trans (hbq.mono (by rw [HB.out]; exact hbw))).alloc (by have := HB.out; omega) _
                have hne : some t ≠ kv.ownBlock := fun e => by have := (hL2.kr.lt t e.symm).1; omega
                refine ⟨⟨h2.cell hL2.c3 hne, ?_⟩, kv', _, _, hL2.kept h1 h2 hown2 htB (fun l hl => HL.out.hi l hl), ?_⟩
                · rw [World.frozen?_of_block (h2.block t (World.block_lt_of_cell? _ _ hL2.c3) hne)]; exact hL2.fz
                · exact ((hbA.grown h2 (by have := hbA.size; rw [HB.out]; exact this) (fun k hk => by have := (hL2.kr.lt k hk).1; omega)).setCell (p := ⟨t, 3, none⟩) (by show b ≤ t; omega) _)
              have HT := Lib.hid htB
              clear hown hbq hq hLq htB
              go_wp2_with (at_builtin; refine append_level rfl _ _ rfl (t + 1) k _ vs (.slice av (n + 1) cv) wr.heap.size rfl rfl hrow.out (new_cell _ _ _) rfl (by have := HT.out; simp; omega) (by omega) ?_; intro v2 w2 hn2 hg2; obtain ⟨g2, cp2, hv2⟩ := row_some hn2; subst hv2; obtain ⟨⟨y3, z3⟩, hF⟩ := HFIN.out _ w2 hn2 hg2; have HF := Lib.hid hF; clear hF hn2 hg2)
              go_roundw
              case rel => exact ⟨k + 1, by omega, by go_num, HF⟩
              case measure => simp [intOf]; omega
        · have : k = lim + 1 := by omega
          subst this
          obtain ⟨A, hA⟩ := hL.done (B := w.heap.size) (by rw [← HB.out]; omega)
          have HF := Lib.hid (And.intro hA (HB.out ▸ hbl))
          clear hL hbl hA
          go_wp2
          go_ret
          exact ⟨t, A, rfl, HF.out⟩
    | succ q =>
      obtain ⟨wd, hwd⟩ : ∃ wd, wd = wr.drew := ⟨_, rfl⟩
      obtain ⟨o0, x0, x1, x2, x3, x4, hbl⟩ := hh.out
      have e : ((q + 1 : Nat) : Int) - 1 = (q : Int) := by omega
      have hqn : q < n := by omega
      obtain ⟨g1, o1, e1, hg1, p1⟩ := (H1.out.below hbl (by rw [HB.out]; exact Nat.le_refl _)).at_ rfl q (by rw [← HN.out]; omega)
      subst e1
      have hbd : Below b w wd := by rw [hwd]; exact hbl.drew
      have dc : ∀ p, wd.cell? p = wr.cell? p := fun p => by rw [hwd]; simp [go_sem]
      have df : ∀ p, wd.frozen? p = wr.frozen? p := fun p => by rw [hwd]; simp [go_sem]
      have od : Own wd b (.slice (some ⟨b, 0, none⟩) (n + 1) (n + 1)) (restL S (q + 1)) := by rw [hwd]; exact o0.drewN 1
      have hl1 : (restL S (q + 1)).length = n + 1 := by rw [restL_len, HN.out]
      have od' : wd.ownsRow b 3 1 (.slice (some ⟨b, 0, none⟩) (n + 1) (n + 1)) (n + 1) ((restL S (q + 1)).map (Value.int .i64)) := by unfold Own at od; rw [hl1] at od; exact od
      have hst := World.ownsRow.stored (g := b) (n := n + 1) (cap := n + 1) od' q (.int .i64 (rest S q))
      have f1 : wd.cell? ⟨b, q + 1, none⟩ = some (.int .i64 (rest S (q + 1))) := by
        rw [od'.cellAt (q + 1) (by omega), List.getElem?_map, restL_at (by rw [← HN.out]; omega) (Nat.le_refl _)]; rfl
      have f2 : wd.frozen? ⟨b, q, none⟩ = false := od'.frozenAt q
      obtain ⟨u, f3⟩ : ∃ u, wd.cell? ⟨b, q, none⟩ = some u := by
        rw [od'.cellAt q (by omega)]
        exact ⟨_, List.getElem?_eq_getElem (by simp only [List.length_map]; rw [hl1]; omega)⟩
      have hstep : ((restL S (q + 1)).map (Value.int .i64)).set q (.int .i64 (rest S q)) = (restL S q).map (Value.int .i64) := by
        rw [← List.map_set, restL_step (by rw [← HN.out]; omega)]
      rw [hstep] at hst
      have HST := Lib.hid hst
      have y0 := (dc _).trans x0
      have y1 := (dc _).trans p1
      have hx := HS.out.2 q (by rw [← HN.out]; exact hqn)
      have hrb := rest_le HS.out (q + 1)
      have hre := rest_step (S := S) (d := q) (by rw [← HN.out]; exact hqn)
      have hFIN : Hid (Own (wd.setCell ⟨b, q, none⟩ (.int .i64 (rest S q))) b (.slice (some ⟨b, 0, none⟩) (n + 1) (n + 1)) (restL S q) ∧ (wd.setCell ⟨b, q, none⟩ (.int .i64 (rest S q))).cell? ⟨t, 0, none⟩ = some (.slice (some ⟨b, 0, none⟩) (n + 1) (n + 1)) ∧
          (wd.setCell ⟨b, q, none⟩ (.int .i64 (rest S q))).cell? ⟨t, 1, none⟩ = some (.int .i64 (R : Int)) ∧ (wd.setCell ⟨b, q, none⟩ (.int .i64 (rest S q))).cell? ⟨t, 2, none⟩ = some (.int .i64 (lim : Int)) ∧ (wd.setCell ⟨b, q, none⟩ (.int .i64 (rest S q))).cell? ⟨t, 3, none⟩ = some (.slice none 0 0) ∧
          (wd.setCell ⟨b, q, none⟩ (.int .i64 (rest S q))).frozen? ⟨t, 3, none⟩ = false ∧ Below b w (wd.setCell ⟨b, q, none⟩ (.int .i64 (rest S q)))) := Lib.hid (by
        refine ⟨?_, ?_, ?_, ?_, ?_, ?_, ?_⟩
        · unfold Own; rw [show (restL S q).length = n + 1 by rw [restL_len, HN.out]]; exact hst.1
        · rw [setc_far (by omega)]; exact (dc _).trans x0
        · rw [setc_far (by omega)]; exact (dc _).trans x1
        · rw [setc_far (by omega)]; exact (dc _).trans x2
        · rw [setc_far (by omega)]; exact (dc _).trans x3
        · rw [World.frozen?_setCell]; exact (df _).trans x4
        · exact hbd.setCell (p := ⟨b, q, none⟩) (Nat.le_refl _) _)
      obtain ⟨rs, hrs⟩ : ∃ x, x = rest S q := ⟨_, rfl⟩
      obtain ⟨rs1, hrs1⟩ : ∃ x, x = rest S (q + 1) := ⟨_, rfl⟩
      obtain ⟨x, hxe⟩ : ∃ x, x = nth S q := ⟨_, rfl⟩
      rw [← hrs] at hFIN hre
      have f1r := (dc _).symm.trans f1
      rw [← hrs1] at hre hrb f1 f1r
      rw [show S[q]?.getD 0 = x from hxe.symm] at y1 p1
      rw [← hxe] at hx hre
      have HR1 := Lib.hid hrs
      rw [hre] at hFIN
      rw [e]
      clear hst hstep od od' hl1 o0 x1 x2 x3 x4 hh hbl hrs hrs1 hxe hre HST dc df e
      have hq1 : q + 1 < n + 1 := by omega
      have hq2 : q < n + 1 := by omega
      have HWD := Lib.hid hwd
      go_wp2
      have hFIN' := HWD.out ▸ hFIN
      have f2r := HWD.out ▸ f2
      obtain ⟨f3r, hf3r⟩ : ∃ u, wr.cell? ⟨b, q, none⟩ = some u := ⟨u, by rw [HWD.out] at f3; simpa [go_sem] using f3⟩
      have f2q : wr.frozen? ⟨b, q, none⟩ = false := by simpa [go_sem] using f2r
      clear f3 f2 f2r y0 y1 hFIN f1 hbd hwd
      go_region
      all_goals
        go_wp2
        go_roundw
        case rel => exact ⟨q, by omega, by go_num, hFIN'⟩
        case measure => first | (simp [intOf]; done) | (simp [intOf]; omega)
end Go.Proofs.Ytgceaffcalkbgaa
