/- Chapter 6: what can be reached, the model's way. -/
import Derived.Test.YteickcpmicifgaaNeA
import Derived.Test.YteickcpmicifgaaNeB
import Derived.Test.YteickcpmicifgaaApt
import Derived.Deep.RegionHeld3
namespace Go.Proofs.Yteickcpmicifgaa
open Go.RowKit Go.Sort
set_option linter.unusedSimpArgs false
set_option linter.unusedVariables false

theorem l1Has_b {b : Bool} (v : Value) (zs : List Int) (n : Int) (w : World) (hr : Rd w v zs) (hb : decide (n ∈ zs) = b) :
    Calls Try.prog 64 #[v, .int .i64 n] w fun e w' => e = .returned (.bool b) ∧ w = w' := by
  have hm := hr.max
  unfold maxLen at hm
  obtain ⟨a, cap, rfl⟩ := hr.len
  obtain ⟨m, hm1⟩ : ∃ m, m = zs.length := ⟨_, rfl⟩
  rw [← hm1] at hm hr ⊢
  have HN := Lib.hid hm1
  have HR := Lib.hid hr
  have HB := Lib.hid hb
  clear hm1 hr hb
  go_enter Try.func64, Try.ntmps64
  go_wp2
  go_loop [9] (fun i => ∃ k : Nat, k ≤ m ∧ i = .int .i64 k ∧ Hid (∀ j, j < k → nth zs j ≠ n)) (fun i => m - (intOf i).toNat)
  case atStart => exact ⟨0, Nat.zero_le _, rfl, Lib.hid fun j hj => by omega⟩
  case round =>
    obtain ⟨k, hk, rfl, hall⟩ := hrel
    by_cases hlt : k < m
    · obtain ⟨g, off, rfl, hg, q⟩ := HR.out.at_ HN.out k hlt
      have hx : zs[k]?.getD 0 = nth zs k := rfl
      rw [hx] at q
      clear hx
      by_cases he : nth zs k = n
      · have hf : Hid (b = true) := Lib.hid (by
          rw [← HB.out, decide_eq_true_eq, ← he]
          have hl : k < zs.length := by rw [← HN.out]; exact hlt
          simp [nth, hl])
        have d : (nth zs k == n) = true := by simpa using he
        clear he
        go_wp2
        go_ret
        exact ⟨ret_bool hf.out.symm, rfl⟩
      · have hall' : Hid (∀ j, j < k + 1 → nth zs j ≠ n) := Lib.hid fun j hj => by
          by_cases e : j = k
          · rw [e]; exact he
          · exact hall.out j (by omega)
        have d : (nth zs k == n) = false := by simpa using he
        clear he
        go_wp2
        go_round
        case rel => exact ⟨k + 1, by omega, by go_num, hall'⟩
        case measure => simp [intOf]; omega
    · have hf : Hid (b = false) := Lib.hid (by
        rw [← HB.out, decide_eq_false_iff_not]
        intro hmem
        obtain ⟨i, hi, e⟩ := List.getElem_of_mem hmem
        exact hall.out i (by have := HN.out; omega) (by simp [nth, hi, e]))
      go_wp2
      go_ret
      exact ⟨ret_bool hf.out.symm, rfl⟩

theorem own_two (w : World) (B : Nat) (x : Int) (hB : B ≤ w.heap.size) : Own (w.alloc (.cells #[.int .i64 x] 3)) B (.slice (some ⟨w.heap.size, 0, none⟩) 1 1) [x] := by
  unfold Own
  exact World.ownsRow_lit w #[.int .i64 x] 1 hB (by unfold maxLen; decide) rfl

set_option maxRecDepth 100000 in
set_option maxHeartbeats 2000000 in
theorem neReach_any (c0 c1 : Value) (ts ls : List T3) (s : Nat) (w : World) (hr : RdN w c0 c1 ts ls) (hn16 : ts.length ≤ 16) (hs : s < ts.length) (hE : ∀ a b, lnkE ls (fun _ => true) a b → b < ts.length) :
    Calls Try.prog 59 #[.agg #[c0, c1], .int .i64 s] w fun e w' => ∃ v', e = .returned v' ∧ Own w' w.heap.size v' (rcL (lnkE ls (fun _ => true)) s ts.length) ∧ Below w.heap.size w w' := by
  obtain ⟨a0, p0, rfl, hp0⟩ := hr.1.len
  obtain ⟨a1, p1, rfl, hp1⟩ := hr.2.len
  obtain ⟨n, hn⟩ : ∃ n, n = ts.length := ⟨_, rfl⟩
  obtain ⟨m, hm⟩ : ∃ m, m = ls.length := ⟨_, rfl⟩
  rw [← hn] at hr hp0 hn16 hs
  rw [← hm] at hr hp1
  rw [← hn, ← hm]
  have HN := Lib.hid hn
  have HM := Lib.hid hm
  have HE : Hid (∀ a b, lnkE ls (fun _ => true) a b → b < n) := Lib.hid (by rw [hn]; exact hE)
  clear hn hm hE
  have N0 := NB.start hr 31
  have h0 := N0.b0
  have h1 := N0.b1
  have HR := Lib.hid hr
  clear hr
  have HM0 : Hid (Met (lnkE ls (fun _ => true)) s n [(s : Int)] ∧ MetTo (lnkE ls (fun _ => true)) n [(s : Int)] 0) := Lib.hid ⟨Met.start hs, MetTo.zero _ _ _⟩
  have NA := N0.alloc (.cells #[.int .i64 (s : Int)] 3)
  have ho := own_two (w.alloc (.cells #[.slice a0 n p0, .slice a1 m p1] 31)) (w.heap.size + 1) (s : Int) (by simp)
  simp only [World.size_alloc] at ho
  go_enter Try.func59, Try.ntmps59
  go_wp2
  clear h0 h1 N0
  go_loopw [5, 6] (fun v t wr => ∃ (zs : List Int) (k : Nat), t = .int .i64 k ∧ Own wr (w.heap.size + 1) v zs ∧ NB w wr a0 n p0 a1 m p1 ts ls ∧ zs.length ≤ n ∧ k ≤ zs.length ∧ Hid (Met (lnkE ls (fun _ => true)) s n zs ∧ MetTo (lnkE ls (fun _ => true)) n zs k)) (fun v t wr => n - (intOf t).toNat)
  case atStart => exact ⟨[(s : Int)], 0, rfl, ho, NA, by simp; omega, by simp, HM0⟩
  case round =>
    clear NA ho HM0
    obtain ⟨zs, k, rfl, hown, NK, hzn, hkz, HMet⟩ := hrel
    obtain ⟨q, hq⟩ : ∃ q, zs.length = q := ⟨_, rfl⟩
    have hne : 0 < q := by
      have := HMet.out.1.here
      rw [← hq]
      exact List.length_pos_of_mem this
    obtain ⟨g, cap, hv, hgB, hgs⟩ := hown.nonnil (q - 1) (by omega)
    rw [show q - 1 + 1 = q by omega] at hv
    subst hv
    rw [hq] at hzn hkz
    have HQ := Lib.hid hq
    clear hq
    by_cases hlt : k < q
    · have h0 := NK.b0
      have h1 := NK.b1
      obtain ⟨g', off', hge, -, hcell⟩ := hown.rd.at_ HQ.out.symm k hlt
      simp only [Option.some.injEq, Addr.mk.injEq, and_true] at hge
      obtain ⟨rfl, rfl⟩ := hge
      obtain ⟨a, ha, han, -⟩ := HMet.out.1.mem (zs[k]?.getD 0) (by have : k < zs.length := by rw [HQ.out]; exact hlt
                                                                   simp [this])
      rw [ha, Nat.zero_add] at hcell
      have HA := Lib.hid ha
      clear ha
      have ND := NK.drew
      obtain ⟨d, hd⟩ : ∃ d, (nbrs ls (a : Int) ts.length).length = d := ⟨_, rfl⟩
      have HD := Lib.hid hd
      have hd16 : d ≤ 16 := by have := nbrs_len ls (a : Int) ts.length; rw [hd, ← HN.out] at this; omega
      clear hd
      have HNX := Lib.hid (neNext_any _ _ ts ls (a : Int) _ ND.rd (by rw [← HN.out]; exact hn16))
      have K1 : Hid (∀ w1 : World, Below wr.drew.heap.size wr.drew w1 → w1.cell? ⟨w.heap.size, 0, none⟩ = some (.slice a0 n p0) ∧ w1.cell? ⟨w.heap.size, 1, none⟩ = some (.slice a1 m p1) ∧ w1.cell? ⟨g, k, none⟩ = some (.int .i64 (a : Int))) := Lib.hid fun w1 hb => ⟨(ND.next hb).b0, (ND.next hb).b1, by rw [hb.cell (p := ⟨g, k, none⟩) hgs]; exact hcell⟩
      go_wp2_with fail
      go_region_held3 (fun w' => w'.cell? ⟨w.heap.size, 0, none⟩ = some (.slice a0 n p0) ∧ w'.cell? ⟨w.heap.size, 1, none⟩ = some (.slice a1 m p1) ∧ w'.cell? ⟨g, k, none⟩ = some (.int .i64 (a : Int)))
        (first | go_keep | exact K1.out _ hb1)
        (first | (go_at_call 56; (with_reducible refine (HNX.out).mono ?_); rintro e w1 ⟨v1, rfl, ho1, hb1⟩; obtain ⟨ad1, cap1, hv1⟩ := ho1.rd.len; rw [HD.out] at hv1; subst hv1))
      have N1 := ND.next hb1
      have hD0 : wr.drew.heap.size = wr.heap.size := rfl
      rw [hD0] at ho1
      have hz1 : wr.heap.size ≤ w1.heap.size := hb1.size
      have hown1 := hown.later ((Below.refl wr.heap.size wr).drew.trans (hb1.mono (Nat.le_refl _)))
      have HNM : Hid (∀ z, z ∈ nbrs ls (a : Int) ts.length ↔ ∃ b : Nat, z = (b : Int) ∧ b < n ∧ lnkE ls (fun _ => true) a b) := Lib.hid fun z => by
        rw [mem_nbrs, ← HN.out]
        constructor
        · rintro ⟨b, h1, h2, h3⟩; exact ⟨b, h2, h1, lnkE_all.2 h3⟩
        · rintro ⟨b, h1, h2, h3⟩; exact ⟨b, h2, h1, lnkE_all.1 h3⟩
      have HIN : Hid (k < zs.length ∧ nth zs k = (a : Int) ∧ ∀ j, j < 0 → nth (nbrs ls (a : Int) ts.length) j ∈ zs) := Lib.hid ⟨by rw [HQ.out]; exact hlt, HA.out, fun j hj => by omega⟩
      generalize nbrs ls (a : Int) ts.length = nbl at *
      generalize wr.heap.size = D0 at *
      have hob : ∀ j, (Value.slice (some ⟨g, 0, none⟩) q cap).ownBlock = some j → j < D0 ∨ w1.heap.size ≤ j := fun j hj => by cases hj; exact .inl hgs
      have HOB := Lib.hid hob
      have HON := Lib.hid ho1.iv
      have hqn : zs.length ≤ n := by rw [HQ.out]; exact hzn
      clear hb1 hcell h0 h1 ND NK HNX K1 hD0 hown hgs hgB hob ho1
      obtain ⟨D1, hD1⟩ : ∃ D1, D1 = w1.heap.size := ⟨_, rfl⟩
      have HD1 := Lib.hid hD1
      rw [← hD1] at HOB HON hz1
      clear hD1
      go_wp2
      rw [← HQ.out]
      go_loopw [5, 27] (fun v c ws => ∃ (zs' : List Int) (t : Nat), c = .int .i64 t ∧ t ≤ d ∧ Own ws (w.heap.size + 1) v zs' ∧ NB w ws a0 n p0 a1 m p1 ts ls ∧ zs'.length ≤ n ∧ OwnI ws D0 D1 (.slice ad1 d cap1) nbl ∧ D1 ≤ ws.heap.size ∧ Hid (∀ j, v.ownBlock = some j → j < D0 ∨ D1 ≤ j) ∧ Hid (Met (lnkE ls (fun _ => true)) s n zs' ∧ MetTo (lnkE ls (fun _ => true)) n zs' k) ∧ Hid (k < zs'.length ∧ nth zs' k = (a : Int) ∧ ∀ j, j < t → nth nbl j ∈ zs')) (fun v c ws => d - (intOf c).toNat)
      case atStart => exact ⟨zs, 0, rfl, Nat.zero_le _, by rw [← HQ.out] at hown1; exact hown1, N1, hqn, HON.out, by rw [HD1.out]; exact Nat.le_refl _, by rw [← HQ.out] at HOB; exact HOB, HMet, HIN⟩
      case round =>
        clear HMet HIN HOB HON hown1 N1 hqn
        obtain ⟨zs', t, rfl, htd, hown, NK, hzn', HON, hD1s, HOB, HMet, HIN⟩ := hrel
        obtain ⟨q', hq'⟩ : ∃ q', zs'.length = q' := ⟨_, rfl⟩
        have hkq : k < q' := by rw [← hq']; exact HIN.out.1
        obtain ⟨g', cap', hv, hgB', hgs'⟩ := hown.nonnil (q' - 1) (by omega)
        rw [show q' - 1 + 1 = q' by omega] at hv
        subst hv
        rw [hq'] at hzn'
        have HQ' := Lib.hid hq'
        clear hq'
        by_cases hlt2 : t < d
        · obtain ⟨gn, offn, rfl, hgn, hcn⟩ := HON.rd.at_ HD.out.symm t hlt2
          have hx : nbl[t]?.getD 0 = nth nbl t := rfl
          rw [hx] at hcn
          have hmemn : nth nbl t ∈ nbl := by
            have : t < nbl.length := by rw [HD.out]; exact hlt2
            simp [nth, this]
          obtain ⟨b, hb, hbn, heb⟩ := (HNM.out _).1 hmemn
          rw [hb] at hcn
          have HB := Lib.hid hb
          clear hx hmemn hb
          cases hin : decide ((b : Int) ∈ zs') with
          | true =>
            have HI := Lib.hid hin
            have HIN2 : Hid (k < zs'.length ∧ nth zs' k = (a : Int) ∧ ∀ j, j < t + 1 → nth nbl j ∈ zs') := Lib.hid ⟨HIN.out.1, HIN.out.2.1, fun j hj => by
              by_cases e : j = t
              · rw [e, HB.out]; simpa using hin
              · exact HIN.out.2.2 j (by omega)⟩
            clear hin
            go_wp2_with fail
            refine (l1Has_b _ zs' _ _ hown.rd HI.out).mono ?_
            rintro e w' ⟨rfl, rfl⟩
            go_wp2
            go_roundw
            case rel => exact ⟨zs', t + 1, by go_num, by omega, hown, NK, by rw [HQ'.out]; exact hzn', HON, hD1s, HOB, HMet, HIN2⟩
            case measure => simp [intOf]; omega
          | false =>
            have HI := Lib.hid hin
            have hnot : (b : Int) ∉ zs' := by simpa using hin
            have hMet2 : Met (lnkE ls (fun _ => true)) s n (zs' ++ [(b : Int)]) := HMet.out.1.add (a := a) (by rw [← HIN.out.2.1]; have := HIN.out.1; simp [nth, this]) heb hbn hnot
            have hlen2 := hMet2.len
            have HMet2 := Lib.hid (And.intro hMet2 (HMet.out.2.more (by have := HIN.out.1; omega) (b : Int)))
            have HL2 : Hid ((zs' ++ [(b : Int)]).length ≤ n) := Lib.hid hlen2
            have HIN2 : Hid (k < (zs' ++ [(b : Int)]).length ∧ nth (zs' ++ [(b : Int)]) k = (a : Int) ∧ ∀ j, j < t + 1 → nth nbl j ∈ zs' ++ [(b : Int)]) := Lib.hid ⟨by have := HIN.out.1; simp; omega, by unfold nth; rw [List.getElem?_append_left HIN.out.1]; exact HIN.out.2.1, fun j hj => by
              by_cases e : j = t
              · rw [e, HB.out]; simp
              · exact List.mem_append_left _ (HIN.out.2.2 j (by omega))⟩
            have hHO := HOB.out
            have hgd : g' < D0 ∨ D1 ≤ g' := hHO g' rfl
            have hnb := HON.1.lt gn rfl
            have hnb2 := HON.2 gn rfl
            clear hin hnot hMet2 hlen2 hHO
            have hsz := NK.size
            have hq40 : q' ≤ 16 := by omega
            have HOW := Lib.hid hown
            have HOW1 := Lib.hid (hown.alloc (.cells #[.int .i64 (b : Int)] 3))
            have HLL : Hid (zs'.length ≤ 1099511627776) := Lib.hid (by rw [HQ'.out]; omega)
            go_wp2_with fail
            refine (l1Has_b _ zs' _ _ HOW.out.rd HI.out).mono ?_
            rintro e w' ⟨rfl, rfl⟩
            go_wp2_with (at_builtin; refine append_int_at rfl _ _ rfl (w.heap.size + 1) _ zs' (b : Int) wr.heap.size rfl rfl HOW1.out (new_cell _ _ _) HLL.out (by simp; omega) ?_; intro v2 w2 ho2 hg2 hat2)
            have hz2 : D1 ≤ w2.heap.size := by have := hg2.size; simp at this; omega
            have HOB2 : Hid (∀ j, v2.ownBlock = some j → j < D0 ∨ D1 ≤ j) := Lib.hid fun j hj => by
              rcases hat2 with e | e
              · rw [e] at hj; cases hj; exact hgd
              · rw [e] at hj; simp at hj; omega
            have hne : (Value.slice (some ⟨gn, offn, none⟩) d cap1).ownBlock ≠ (Value.slice (some ⟨g', 0, none⟩) q' cap').ownBlock := fun e => by
              have e' : gn = g' := by simpa [Value.ownBlock] using e
              omega
            have HON2 : OwnI w2 D0 D1 (.slice (some ⟨gn, offn, none⟩) d cap1) nbl := ⟨(HON.1.alloc _).kept hg2 (.inr hne), HON.2⟩
            have N2 := (NK.alloc (.cells #[.int .i64 (b : Int)] 3)).app HR.out HOW1.out hg2
            go_roundw
            case rel => exact ⟨zs' ++ [(b : Int)], t + 1, by go_num, by omega, ho2, N2, HL2.out, HON2, hz2, HOB2, HMet2, HIN2⟩
            case measure => simp [intOf]; omega
        · obtain rfl : t = d := by omega
          have HMet2 : Hid (Met (lnkE ls (fun _ => true)) s n zs' ∧ MetTo (lnkE ls (fun _ => true)) n zs' (k + 1)) := Lib.hid ⟨HMet.out.1, fun j hj a' b ha' he hb => by
            by_cases e : j = k
            · rw [e, HIN.out.2.1] at ha'
              have : a = a' := by omega
              subst this
              have hm := (HNM.out (b : Int)).2 ⟨b, rfl, hb, he⟩
              obtain ⟨i, hi, e'⟩ := List.getElem_of_mem hm
              have := HIN.out.2.2 i (by rw [← HD.out]; exact hi)
              rw [← e']
              simpa [nth, hi] using this
            · exact HMet.out.2 j (by omega) a' b ha' he hb⟩
          have HK2 : Hid (k + 1 ≤ zs'.length) := Lib.hid (by have := HIN.out.1; omega)
          have hkn : k + 1 ≤ n := by omega
          have HOWN := Lib.hid hown
          clear hown
          go_wp2
          go_roundw
          case rel => exact ⟨zs', k + 1, by go_num, HOWN.out, NK, by rw [HQ'.out]; exact hzn', HK2.out, HMet2⟩
          case measure => simp [intOf]; omega
    · obtain rfl : k = q := by omega
      have HALL : Hid (∀ z, z ∈ zs ↔ ∃ b : Nat, z = (b : Int) ∧ b < n ∧ Rcv (lnkE ls (fun _ => true)) s b) := Lib.hid (HMet.out.1.all (by rw [HQ.out]; exact HMet.out.2) HE.out)
      have HND := Lib.hid HMet.out.1.nodup
      have HOWN : Hid (OwnI wr (w.heap.size + 1) wr.heap.size (.slice (some ⟨g, 0, none⟩) k cap) zs) := Lib.hid hown.iv
      have hm0 : w.heap.size + 1 ≤ wr.heap.size := NK.size
      obtain ⟨W0, hW0⟩ : ∃ W0, W0 = wr := ⟨_, rfl⟩
      have N0 := NK
      have hb0 := Below.refl W0.heap.size W0
      rw [← hW0] at HOWN N0 hm0
      clear hown HMet hgs
      go_wp2
      rw [← hW0]
      go_loopw [9, 42] (fun o c ws => ∃ (out : List Int) (t : Nat), c = .int .i64 t ∧ t ≤ k ∧ Own ws (w.heap.size + 1) o out ∧ Below W0.heap.size W0 ws ∧ out.length ≤ k ∧ Hid (InOrder zs t out)) (fun o c ws => k - (intOf c).toNat)
      case atStart => exact ⟨[], 0, rfl, Nat.zero_le _, Own.nil _ _, hb0, Nat.zero_le _, Lib.hid (InOrder.zero _)⟩
      case round =>
        obtain ⟨out, t, rfl, htk, hout, hbw, hol, HIO⟩ := hrel
        have HZ := Lib.hid (HOWN.out.later hbw)
        have hsz := hbw.size
        obtain ⟨ao, co, hvo⟩ := hout.rd.len
        obtain ⟨lo, hlo⟩ : ∃ lo, out.length = lo := ⟨_, rfl⟩
        rw [hlo] at hvo hol
        subst hvo
        have HLO := Lib.hid hlo
        clear hlo
        by_cases hlt2 : t < k
        · obtain ⟨gz, oz, hge, hgz, hcz⟩ := HZ.out.rd.at_ HQ.out.symm t hlt2
          simp only [Option.some.injEq, Addr.mk.injEq, and_true] at hge
          obtain ⟨rfl, rfl⟩ := hge
          have hx : zs[t]?.getD 0 = nth zs t := rfl
          rw [hx, Nat.zero_add] at hcz
          clear hx
          obtain ⟨hnm, hio2⟩ := HIO.out.next (by rw [HQ.out]; exact hlt2) HND.out
          have HPB := Lib.hid (putB_no hnm)
          have HIO2 := Lib.hid hio2
          have HL2 : Hid ((putN out (nth zs t)).length ≤ k) := Lib.hid (by have := hio2.length HND.out; rw [HQ.out] at this; exact this)
          have HLE : Hid (out.length ≤ 1048576) := Lib.hid (by rw [HLO.out]; omega)
          have HOUT := Lib.hid hout
          clear hnm hio2
          generalize nth zs t = z at *
          go_wp2_with fail
          refine (l1Put_any _ out z _ HLE.out HOUT.out.rdc).mono ?_
          rintro e w2 ⟨v2, rfl, hv2, hb2⟩
          have ho2 : Own w2 (w.heap.size + 1) v2 (putN out z) := by
            rcases hv2 with ⟨-, h⟩ | ⟨-, h⟩
            · rw [HPB.out] at h; cases h
            · exact h.base (by omega)
          clear hv2
          go_wp2
          go_roundw
          case rel => exact ⟨putN out z, t + 1, by go_num, by omega, ho2, hbw.trans (hb2.mono hsz), HL2.out, HIO2⟩
          case measure => simp [intOf]; omega
        · obtain rfl : t = k := by omega
          have HEQ : Hid (out = rcL (lnkE ls (fun _ => true)) s n) := Lib.hid (rcL_ext HIO.out.sorted fun z => by
            rw [HIO.out.mem, show zs.take t = zs from List.take_of_length_le (by rw [HQ.out]; exact Nat.le_refl _)]
            exact HALL.out z)
          have hN := N0.below.trans (hbw.mono N0.below.size)
          go_wp2
          go_ret
          exact ⟨_, rfl, by rw [← HEQ.out]; exact hout.base (by omega), hN⟩
end Go.Proofs.Yteickcpmicifgaa
