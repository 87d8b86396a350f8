/- Drawing sites from bytes: a loose contract. -/
import Derived.Test.YtpmdjdlojbpcfaaDt0
import Derived.Deep.RegionLaw
namespace Go.Proofs.Ytpmdjdlojbpcfaa
open Go.RowKit Go.Sort
set_option linter.unusedSimpArgs false
set_option linter.unusedVariables false

def lnV : Value → Nat
  | .slice _ n _ => n
  | _ => 0
theorem SJ.put {w W W2 : World} {p K C m r cap g : Nat} {L : List (List Int)} {us : Nat → Value} {u : Value} {zs : List Int} (h : SJ w W p K C (.slice (some ⟨g, 0, none⟩) m cap) L us) (hm : L.length = m) (hr : r < m)
    (hu : Own W2 w.heap.size u zs) (hx : u.ownBlock = (us r).ownBlock ∨ ∀ b, u.ownBlock = some b → W.heap.size ≤ b) (hl : Below w.heap.size W W2) (hh : ∀ b, b < W.heap.size → (us r).ownBlock ≠ some b → W2.heap[b]? = W.heap[b]?) :
    SJ w (W2.setCell ⟨g, r, none⟩ u) p K W2.heap.size (.slice (some ⟨g, 0, none⟩) m cap) (L.set r zs) (fun i => if i = r then u else us i) := by
  have s := (h.own.swap hm hr h.hi hu hx hl.size hh).1
  have hg := (h.own.1.lt g rfl).1
  have hz : (W2.setCell ⟨g, r, none⟩ u).heap.size = W2.heap.size := by simp [World.setCell]
  exact ⟨h.db.lo (hl.setCell (p := ⟨g, r, none⟩) hg u), s, Nat.le_trans h.lo (Nat.le_trans h.hi hl.size), by rw [hz]; exact Nat.le_refl _⟩
theorem rows_set {L : List (List Int)} {r M : Nat} {zs : List Int} (hr : r < L.length) (h : ∀ i, (rowAt L i).length ≤ M) (hz : zs.length ≤ M + 1) : ∀ i, (rowAt (L.set r zs) i).length ≤ M + 1 := fun i => by
  rw [rowAt_set hr]
  split
  · exact hz
  · have := h i; omega
theorem rd_new (W : World) (y : Int) (t : TypeId) : Rd (W.alloc (.cells #[.int .i64 y] t)) (.slice (some ⟨W.heap.size, 0, none⟩) 1 1) [y] :=
  .inr ⟨W.heap.size, 0, 1, rfl, by simp, by simp [maxLen], by intro i hi; obtain rfl : i = 0 := by simpa using hi
                                                              simp [go_sem]⟩
theorem OwnU.ne {w : World} {B C g n cap : Nat} {L : List (List Int)} {us : Nat → Value} (h : OwnU w B C (.slice (some ⟨g, 0, none⟩) n cap) L us) {i : Nat} (hi : i < L.length) : (us i).ownBlock ≠ some g := fun e => by
  rcases row_apart (h.2.2.1 i hi).1 h.1 (by decide) with hx | hx
  · rw [hx] at e; cases e
  · exact hx e
theorem putN_len (zs : List Int) (n : Int) : (putN zs n).length ≤ zs.length + 1 := by
  unfold putN; simp; omega

set_option maxRecDepth 100000 in
set_option maxHeartbeats 8000000 in
theorem sites_draw (p K : Nat) (w : World) (hC : Cur w p K) (hK : K ≤ 1000) :
    Calls Try.prog 52 #[.pointer (some ⟨p, 0, none⟩)] w fun e w' => ∃ (v : Value) (L : List (List Int)) (us : Nat → Value) (n : Nat), e = .returned (.tuple #[v, .int .i64 n]) ∧ OwnU w' w.heap.size w'.heap.size v L us ∧ L.length ≤ 13 ∧ n ≤ 17 ∧ Cur w' p (K + 2000) ∧ Kp p (p + 1) w w' := by
  have d0 : DB w w p K := ⟨hC, Kp.refl _ _ _, hC.lt⟩
  clear hC
  go_enter Try.func52, Try.ntmps52
  go_wp2_with fail
  refine (pick_any p K 8 _ d0.cur (by omega) (by omega) (by omega)).mono ?_
  rintro e w1 ⟨r1, rfl, hr1, hC1, hk1⟩
  have d1 := d0.go hC1 hk1
  go_wp2_with fail
  refine (pick_any p (K + 2) 6 _ d1.cur (by omega) (by omega) (by omega)).mono ?_
  rintro e w2 ⟨r2, rfl, hr2, hC2, hk2⟩
  have d2 := d1.go hC2 hk2
  go_wp2_with fail
  refine (pick_any p (K + 2 + 2) 24 _ d2.cur (by omega) (by omega) (by omega)).mono ?_
  rintro e w3 ⟨r3, rfl, hr3, hC3, hk3⟩
  have d3 := d2.go hC3 hk3
  clear hC1 hC2 hC3 hk1 hk2 hk3 d0 d1 d2
  obtain ⟨b0, hb0⟩ : ∃ b : Bool, ((r3 : Int) == 0) = b := ⟨_, rfl⟩
  obtain ⟨b1, hb1⟩ : ∃ b : Bool, ((r3 : Int) == 1) = b := ⟨_, rfl⟩
  go_upto_block 0 with fail
  go_cut [4, 5] from 21 to 30 (fun s4 s5 wx => ∃ n k : Nat, s4 = .int .i64 n ∧ n ≤ 17 ∧ s5 = .int .i64 k ∧ k ≤ 13 ∧ DB w wx p (K + 8))
  case first =>
    cases b0 with
    | true =>
      go_wp2_with fail
      refine (among_list p (K + 6) [0, 16, 17] w3 d3.cur (by omega) (by simp) (by simp) 3).mono ?_
      rintro e w4 ⟨z, hm, rfl, hC4, hk4⟩
      simp only [List.mem_cons, List.not_mem_nil, or_false] at hm
      obtain ⟨z, rfl⟩ : ∃ n : Nat, z = n := ⟨z.toNat, by omega⟩
      have d4 := d3.go hC4 hk4
      go_wp2_with fail
      go_meet
      exact ⟨z, 1 + r2, rfl, by omega, by go_num, by omega, d4⟩
    | false =>
      cases b1 with
      | true =>
        go_wp2_with fail
        refine (among_list p (K + 6) [0, 12, 13] w3 d3.cur (by omega) (by simp) (by simp) 3).mono ?_
        rintro e w4 ⟨z, hm, rfl, hC4, hk4⟩
        simp only [List.mem_cons, List.not_mem_nil, or_false] at hm
        obtain ⟨z, rfl⟩ : ∃ n : Nat, z = n := ⟨z.toNat, by omega⟩
        have d4 := d3.go hC4 hk4
        go_wp2_with fail
        go_meet
        exact ⟨1 + r1, z, by go_num, by omega, rfl, by omega, d4⟩
      | false =>
        go_wp2_with fail
        go_meet
        exact ⟨1 + r1, 1 + r2, by go_num, by omega, by go_num, by omega, d3.more (by omega)⟩
  case rest =>
  obtain ⟨n, k, rfl, hn, rfl, hk, d4⟩ := hcut
  clear hb0 hb1 d3 hr1 hr2 hr3
  go_wp2_with fail
  refine (pick_any p (K + 8) 3 _ d4.cur (by omega) (by omega) (by omega)).mono ?_
  rintro e w5 ⟨r5, rfl, hr5, hC5, hk5⟩
  have d5 := d4.go hC5 hk5
  have hsz5 := d5.size
  clear hC5 hk5 d4
  obtain ⟨o5, ho5⟩ : ∃ o : Nat, (1 + (r5 : Int)) = o := ⟨1 + r5, by push_cast; rfl⟩
  have ho5' : o5 ≤ 3 := by omega
  go_wp2_with fail
  (try rw [ho5])
  clear ho5
  go_loopw [6] (fun s6 wr => ∃ (v : Value) (L : List (List Int)) (us : Nat → Value) (C : Nat), s6 = v ∧ SJ w wr p (K + 12 + 40 * L.length) C v L us ∧ L.length ≤ k ∧ ∀ i, (rowAt L i).length ≤ 17) (fun s6 wr => k - lnV s6)
  case atStart => exact ⟨_, [], _, w.heap.size, rfl, ⟨d5.more (by omega), OwnU.nil _ _ _, Nat.le_refl _, hsz5⟩, by simp, by simp [rowAt]⟩
  case round =>
    clear d5 hsz5
    obtain ⟨v, L, us, C, rfl, hS, hl, hrw⟩ := hrel
    obtain ⟨av, cv, rfl⟩ := hS.own.j.len
    have HS := Lib.hid hS
    have HRW := Lib.hid hrw
    obtain ⟨m, hm⟩ : ∃ m, m = L.length := ⟨_, rfl⟩
    rw [← hm] at hS hl HS ⊢
    have HM := Lib.hid hm
    clear hm hrw
    obtain ⟨W1, hW1⟩ : ∃ W1, W1 = wr := ⟨_, rfl⟩
    subst hW1
    by_cases hlt : m < k
    · go_wp2_with fail
      go_loopw [8, 9] (fun s8 s9 wr2 => ∃ (i : Nat) (zs : List Int), s9 = .int .i64 i ∧ i ≤ n ∧ zs.length ≤ i ∧ SJ w wr2 p (K + 12 + 40 * m + 2 * i) W1.heap.size (.slice av m cv) L us ∧ Own wr2 W1.heap.size s8 zs) (fun s8 s9 wr2 => n - (intOf s9).toNat)
      case atStart => exact ⟨0, [], rfl, by omega, by simp, HS.out.wide hS.hi (Nat.le_refl _), Own.nil _ _⟩
      case round =>
        clear hS
        obtain ⟨i, zs, rfl, hi, hz, hS2, ho⟩ := hrel
        have hp := hS2.db.pw
        have hsz2 := hS2.hi
        have hws := HS.out.db.size
        by_cases hlt2 : i < n
        · go_wp2_with fail
          rw [show ((o5 : Int) + 1) = ((o5 + 1 : Nat) : Int) from by push_cast; rfl]
          refine (one_any p (K + 12 + 40 * m + 2 * i) (o5 + 1) _ hS2.db.cur (by omega) (by omega) (by omega)).mono ?_
          rintro e wq ⟨b, rfl, hCq, hkq⟩
          have S3 := hS2.go hCq hkq
          have ho3 : Own wq W1.heap.size _ zs := row_at ho fun j hj => hkq.block j (ho.lt j hj).2 (.inr (by have := (ho.lt j hj).1; omega))
          clear hCq hkq hS2 ho
          have hsq := S3.hi
          cases b with
          | true =>
            obtain ⟨au, cu, rfl⟩ := ho3.rd.len
            have al := (Below.refl W1.heap.size wq).alloc hsq (.cells #[.int .i64 i] 3)
            have S4 := S3.up al
            have hs4 := S4.hi
            have ho4 := ho3.alloc (.cells #[.int .i64 i] 3)
            clear al
            go_wp2_with (at_builtin; refine append_int rfl _ _ rfl W1.heap.size _ zs (i : Int) wq.heap.size rfl rfl ho4 (new_cell _ _ _) (by omega) hs4 ?_; intro v' w' o' g')
            have hb' := (Below.refl W1.heap.size _).grown g' hs4 (fun j hj => (ho4.lt j hj).1)
            go_roundw
            case rel => exact ⟨i + 1, zs ++ [(i : Int)], by go_num, by omega, by simp; omega, (S4.up hb').more (by omega), o'⟩
            case measure => simp only [intOf]; omega
          | false =>
            go_wp2_with fail
            go_roundw
            case rel => exact ⟨i + 1, zs, by go_num, by omega, by omega, S3.more (by omega), ho3⟩
            case measure => simp only [intOf]; omega
        · obtain ⟨au, cu, rfl⟩ := ho.rd.len
          have al := (Below.refl wr.heap.size wr).alloc (Nat.le_refl _) (.cells #[.slice au zs.length cu] 26)
          have S4 := hS2.later al
          have ho4 := ho.later al
          have hs4 := S4.hi
          have hB := HS.out.db.size
          have hzs : zs.length ≤ 17 := by omega
          have hm13 : L.length ≤ 1048576 := by rw [← HM.out]; omega
          have HZ := Lib.hid hzs
          obtain ⟨q, hq⟩ : ∃ q, q = zs.length := ⟨_, rfl⟩
          rw [← hq] at al S4 ho4 hs4 ⊢
          have HQ := Lib.hid hq
          clear hq al ho
          go_wp2_with (at_builtin; refine append_row rfl _ _ rfl w.heap.size W1.heap.size _ L us _ zs wr.heap.size rfl rfl S4.own ho4 (new_cell _ _ _) hm13 hB hs4 ?_; intro v' w' o' g')
          have hg0 := (Below.refl w.heap.size _).grown g' (by omega) (fun j hj => (S4.own.1.lt j hj).1)
          have hl1 : (L ++ [zs]).length = m + 1 := by rw [List.length_append, ← HM.out]; rfl
          obtain ⟨av', cv', hv'⟩ := o'.j.len
          rw [hl1] at hv'
          subst hv'
          go_roundw
          case rel => exact ⟨_, L ++ [zs], _, _, rfl, ⟨by rw [hl1]; exact (S4.db.lo hg0).more (by omega), o', Nat.le_trans S4.db.size hg0.size, Nat.le_refl _⟩, by rw [hl1]; omega, fun j => by
            by_cases hj : j < L.length
            · rw [show rowAt (L ++ [zs]) j = rowAt L j by unfold rowAt; rw [List.getElem?_append_left hj]]; exact HRW.out j
            · by_cases he : j = L.length
              · rw [show rowAt (L ++ [zs]) j = zs by simp [rowAt, he]]; exact HZ.out
              · rw [rowAt_ge (by rw [hl1]; have := HM.out; omega)]; simp⟩
          case measure => simp only [lnV]; omega
    · obtain rfl : m = k := by omega
      have hrw := HRW.out
      by_cases hm0 : m = 0
      · subst hm0
        go_wp2_with fail
        go_ret2
        exact ⟨_, L, us, n, rfl, HS.out.own.wide2 hS.hi, by rw [← HM.out]; omega, hn, (hS.db.more (by omega)).cur, hS.db.kp⟩
      · have hpos : decide ((m : Int) > 0) = true := by simp; omega
        go_wp2_with fail
        refine (one_any p _ 2 _ hS.db.cur (by omega) (by omega) (by omega)).mono ?_
        rintro e wa ⟨b, rfl, hCa, hka⟩
        have Sa := hS.go hCa hka
        obtain ⟨g, cap, hv, -, -, -⟩ := Sa.own.form (by rw [← HM.out]; omega)
        rw [← HM.out] at hv
        obtain ⟨rfl, rfl⟩ : av = some ⟨g, 0, none⟩ ∧ cap = cv := by simp only [Value.slice.injEq] at hv; exact ⟨hv.1, hv.2.2.symm⟩
        clear hv hCa hka hS
        go_upto_if 58 with fail
        go_cut [10, 11] from 59 to 78 (fun s10 s11 wx => ∃ (L' : List (List Int)) (us' : Nat → Value) (C' : Nat), SJ w wx p (K + 700) C' (.slice (some ⟨g, 0, none⟩) m cap) L' us' ∧ L'.length = m ∧ ∀ j, (rowAt L' j).length ≤ 36)
        case first =>
          cases b with
          | false =>
            go_wp2_with fail
            go_meet
            exact ⟨L, us, C, Sa.more (by omega), HM.out.symm, fun j => by have := hrw j; omega⟩
          | true =>
            go_wp2_with fail
            refine (pick_any p _ m _ Sa.db.cur (by omega) (by omega) (by omega)).mono ?_
            rintro e wb ⟨r, rfl, hr, hCb, hkb⟩
            have Sb := Sa.go hCb hkb
            have HRW2 := Lib.hid hrw
            clear hCb hkb Sa hrw
            go_wp2_with fail
            go_loopw [11] (fun s11 wr => ∃ (i : Nat) (L' : List (List Int)) (us' : Nat → Value) (C' : Nat), s11 = .int .i64 i ∧ i ≤ n + 1 ∧ SJ w wr p (K + 560 + 2 * i) C' (.slice (some ⟨g, 0, none⟩) m cap) L' us' ∧ L'.length = m ∧ ∀ j, (rowAt L' j).length ≤ 17 + i) (fun s11 wr => n + 1 - (intOf s11).toNat)
            case atStart => exact ⟨0, L, us, C, rfl, by omega, Sb.more (by omega), HM.out.symm, fun j => by have := HRW2.out j; omega⟩
            case round =>
              clear Sb
              obtain ⟨i, L', us', C', rfl, hi, S, hl', hr'⟩ := hrel
              have HR' := Lib.hid hr'
              have HL' := Lib.hid hl'
              clear hr' hl'
              by_cases hlt : i < n
              · obtain ⟨c0, f0⟩ := S.own.cell HL'.out r hr
                have hrl : r < L'.length := by rw [HL'.out]; exact hr
                have HRD := Lib.hid (S.own.2.2.1 r hrl).rdc
                have HRO := Lib.hid (S.own.2.2.1 r hrl).1
                have HRL := Lib.hid hrl
                clear hrl
                go_wp2_with fail
                refine (l1Put_any _ _ (i : Int) _ (by have := HR'.out r; omega) HRD.out).mono ?_
                rintro e wc ⟨v', rfl, hcase, hbc⟩
                have Sc := S.later hbc
                obtain ⟨d0, e0⟩ := Sc.own.cell HL'.out r hr
                have hSP : (∃ (a' : Option Addr) (n' c' : Nat), v' = .slice a' n' c') ∧ ∃ (L2 : List (List Int)) (us2 : Nat → Value), SJ w (wc.setCell ⟨g, r, none⟩ v') p (K + 560 + 2 * i) wc.heap.size (.slice (some ⟨g, 0, none⟩) m cap) L2 us2 ∧ Hid (L2.length = m) ∧ Hid (∀ j, (rowAt L2 j).length ≤ 17 + i + 1) := by
                  rcases hcase with ⟨rfl, hp⟩ | ⟨hp, ho⟩
                  · exact ⟨by obtain ⟨a', c', h⟩ := HRO.out.rd.len; exact ⟨_, _, _, h⟩, _, _, S.put HL'.out hr (HRO.out.later hbc) (.inl rfl) (hbc.mono S.db.size) (fun b hb _ => hbc.block b hb), Lib.hid (by rw [List.length_set]; exact HL'.out), Lib.hid (rows_set HRL.out HR'.out (by have := HR'.out r; omega))⟩
                  · exact ⟨by obtain ⟨a', c', h⟩ := ho.rd.len; exact ⟨_, _, _, h⟩, _, _, S.put HL'.out hr (ho.base S.db.size) (.inr fun b hb => (ho.lt b hb).1) (hbc.mono S.db.size) (fun b hb _ => hbc.block b hb), Lib.hid (by rw [List.length_set]; exact HL'.out), Lib.hid (rows_set HRL.out HR'.out (by have := putN_len (rowAt L' r) i; have := HR'.out r; omega))⟩
                obtain ⟨⟨a', n', c', rfl⟩, L2, us2, S2, HL2, HR2⟩ := hSP
                clear hcase c0 f0 S Sc
                go_wp2_with fail
                refine (pick_any p _ 2 _ S2.db.cur (by omega) (by omega) (by omega)).mono ?_
                rintro e wd ⟨r9, rfl, hr9, hCd, hkd⟩
                have S3 := S2.go hCd hkd
                go_wp2_with fail
                go_roundw
                case rel => exact ⟨i + (1 + r9), L2, us2, _, by go_num, by omega, S3.more (by omega), HL2.out, fun j => by have := HR2.out j; omega⟩
                case measure => simp only [intOf]; omega
              · go_wp2_with fail
                go_meet
                exact ⟨L', us', C', S.more (by omega), HL'.out, fun j => by have := HR'.out j; omega⟩
        case rest =>
        obtain ⟨L2, us2, C2, S2, hl2, hr2⟩ := hcut
        clear Sa hrw
        have HL2 := Lib.hid hl2
        have HR2 := Lib.hid hr2
        clear hl2 hr2
        go_wp2_with fail
        refine (one_any p _ 24 _ S2.db.cur (by omega) (by omega) (by omega)).mono ?_
        rintro e we ⟨b2, rfl, hCe, hke⟩
        have Se := S2.go hCe hke
        cases b2 with
        | false =>
          go_wp2_with fail
          go_ret2
          exact ⟨_, L2, us2, n, rfl, Se.own.wide2 Se.hi, by rw [HL2.out]; omega, hn, (Se.db.more (by omega)).cur, Se.db.kp⟩
        | true =>
          go_wp2_with fail
          refine (pick_any p _ m _ Se.db.cur (by omega) (by omega) (by omega)).mono ?_
          rintro e wf ⟨r, rfl, hr, hCf, hkf⟩
          have Sf := Se.go hCf hkf
          clear hCe hke hCf hkf S2 Se
          have hr2 : r < L2.length := by rw [HL2.out]; exact hr
          have hO := Lib.hid (Sf.own.2.2.1 r hr2).1
          have hz40 := HR2.out r
          obtain ⟨ua, uc, hu⟩ := hO.out.rd.len
          obtain ⟨q, hq⟩ : ∃ q, q = (rowAt L2 r).length := ⟨_, rfl⟩
          rw [← hq] at hu hz40
          have HQ := Lib.hid hq
          have HU := Lib.hid hu
          have HRL2 := Lib.hid hr2
          clear hq hr2
          have hC0 : ∀ X, Below wf.heap.size wf X → X.cell? ⟨g, r, none⟩ = some (.slice ua q uc) ∧ X.frozen? ⟨g, r, none⟩ = false := fun X hX => by
            have h := (Sf.later hX).own.cell HL2.out r hr
            rw [HU.out] at h; exact h
          clear hu
          have al := (Below.refl wf.heap.size wf).alloc (Nat.le_refl _) (.cells #[.int .i64 (-1), .int .i64 ((n : Int) - 1), .int .i64 n] 3)
          have hLS : LS (wf.alloc (.cells #[.int .i64 (-1), .int .i64 ((n : Int) - 1), .int .i64 n] 3)).drew wf.heap.size [-1, (n : Int) - 1, (n : Int)] := (LS.new wf [-1, (n : Int) - 1, (n : Int)] 3).below ((Below.refl _ _).drew)
          have SA := Sf.later al.drew
          obtain ⟨c0, f0⟩ := hC0 _ (Below.refl _ _)
          obtain ⟨c1, f1⟩ := hC0 _ al
          have HC0 := Lib.hid hC0
          have hgp : wf.heap.size ≠ p := by have := Sf.db.pw; have := Sf.db.size; omega
          clear hC0
          have hwn : IntKind.i64.wrap ((n : Int) - 1) = (n : Int) - 1 := IntWalk.i64_in _ (by omega)
          go_wp2_with fail
          have hgs := (Sf.own.1.lt g rfl).2
          have hng := Sf.own.ne HRL2.out
          rw [HU.out] at hng
          have hpz := Sf.db.pw
          have hsf := Sf.db.size
          have CA := Lib.hid (among_ls p (K + 700 + 2 + 2) wf.heap.size 3 [-1, (n : Int) - 1, (n : Int)] _ SA.db.cur (by omega) rfl (by omega) (by omega) hLS hgp)
          have HP : ∀ (w2 : World) (z : Int), Cur w2 p (K + 700 + 2 + 2 + 2) → Kp p (p + 1) (wf.alloc (.cells #[.int .i64 (-1), .int .i64 ((n : Int) - 1), .int .i64 n] 3)).drew w2 →
              (w2.cell? ⟨g, r, none⟩ = some (.slice ua q uc) ∧ w2.frozen? ⟨g, r, none⟩ = false) ∧ ((w2.alloc (.cells #[.int .i64 z] 3)).cell? ⟨g, r, none⟩ = some (.slice ua q uc) ∧ (w2.alloc (.cells #[.int .i64 z] 3)).frozen? ⟨g, r, none⟩ = false) ∧
              SJ w (w2.alloc (.cells #[.int .i64 z] 3)) p (K + 700 + 2 + 2 + 2) C2 (.slice (some ⟨g, 0, none⟩) m cap) L2 us2 ∧ Own (w2.alloc (.cells #[.int .i64 z] 3)) w.heap.size (.slice ua q uc) (rowAt L2 r) ∧ w.heap.size ≤ (w2.alloc (.cells #[.int .i64 z] 3)).heap.size ∧ g < w2.heap.size := fun w2 z hCz hkz => by
            have Sz := SA.go hCz hkz
            have alz := (Below.refl w2.heap.size w2).alloc (Nat.le_refl _) (.cells #[.int .i64 z] 3)
            have SB := Sz.later alz
            have h1 := Sz.own.cell HL2.out r hr
            have h2 := SB.own.cell HL2.out r hr
            have oB := (SB.own.2.2.1 r HRL2.out).1
            rw [HU.out] at h1 h2 oB
            exact ⟨h1, h2, SB, oB, SB.db.size, (Sz.own.1.lt g rfl).2⟩
          have HP' := Lib.hid HP
          clear HP SA hLS
          have HN : Hid (∀ z : Int, (rowAt L2 r).length + [z].length ≤ 1099511627776) := Lib.hid fun z => by rw [← HQ.out]; simp; omega
          have HX : Hid (∀ (X w3 : World) (v2 : Value) (zs : List Int), Own w3 w.heap.size v2 zs → X.grownBy w3 (Value.slice ua q uc).ownBlock → g < X.heap.size → X.cell? ⟨g, r, none⟩ = some (.slice ua q uc) → X.frozen? ⟨g, r, none⟩ = false →
              (∃ a2 m2 k2, v2 = .slice a2 m2 k2) ∧ w3.cell? ⟨g, r, none⟩ = some (.slice ua q uc) ∧ w3.frozen? ⟨g, r, none⟩ = false) := Lib.hid fun X w3 v2 zs o3 g3 hg hc hf => by
            obtain ⟨a2, k2, hv2⟩ := o3.rd.len
            have e3 := g3.block g hg (fun e => hng e.symm)
            exact ⟨⟨_, _, _, hv2⟩, (World.cell?_of_block (a := ⟨g, r, none⟩) e3).trans hc, (World.frozen?_of_block (a := ⟨g, r, none⟩) e3).trans hf⟩
          clear hng
          have HS' : Hid (∀ X : World, ∀ z : Int, g < X.heap.size → g < (X.alloc (.cells #[.int .i64 z] 3)).heap.size) := Lib.hid fun X z h => by simp; omega
          go_region_law (first | (refine step_append_I (by rfl) _ _ (by rfl) w.heap.size _ _ (rowAt L2 r) [z] (by rfl) (by rfl) oB (rd_new _ _ _) (HN.out z) hsB ?_; intro v2 w3 o3 g3 x3; obtain ⟨⟨a2, m2, k2, rfl⟩, cx, fx⟩ := HX.out _ _ _ _ o3 g3 (HS'.out _ z hgz) cy fy) | (go_simp; go_at_call 53; refine CA.out.mono ?_; rintro e w2 ⟨z, hz, rfl, hCz, hkz⟩; obtain ⟨⟨cz, fz⟩, ⟨cy, fy⟩, SB, oB, hsB, hgz⟩ := HP'.out w2 z hCz hkz; go_simp))
          all_goals
            have hu0 : (us2 r).ownBlock = (Value.slice ua q uc).ownBlock := by rw [HU.out]
            have SP := SB.put HL2.out hr o3 (x3.imp (fun e => e.trans hu0.symm) (fun e b hb => by rw [e] at hb; cases hb; exact Nat.le_refl _)) ((Below.refl w.heap.size _).grown g3 hsB (fun b hb => (oB.lt b hb).1)) (fun b hb hne => g3.block b hb (fun e => hne (by rw [hu0]; exact e.symm)))
            go_wp2_with fail
            go_ret2
            exact ⟨_, _, _, n, rfl, SP.own.wide2 SP.hi, by rw [List.length_set, HL2.out]; omega, hn, (SP.db.more (by omega)).cur, SP.db.kp⟩
end Go.Proofs.Ytpmdjdlojbpcfaa
