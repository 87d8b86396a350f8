/- Chapter 8: needed sites of the model. -/
import Derived.Test.YtpmdjdlojbpcfaaStH
namespace Go.Proofs.Ytpmdjdlojbpcfaa
open Go.RowKit
set_option linter.unusedSimpArgs false
set_option linter.unusedVariables false

def allL (m : Nat) : List Int := (List.range m).map fun i : Nat => (i : Int)
theorem allL_succ (m : Nat) : allL (m + 1) = allL m ++ [(m : Int)] := by simp [allL, List.range_succ]
theorem allL_len (m : Nat) : (allL m).length = m := by simp [allL]
theorem allL_ris (m : Nat) : Ris (allL m) 0 m := by
  refine ⟨?_, fun x hx => ?_⟩
  · unfold allL
    rw [List.pairwise_map]
    exact List.pairwise_lt_range.imp fun h => by omega
  · simp only [allL, List.mem_map, List.mem_range] at hx
    obtain ⟨i, hi, rfl⟩ := hx; omega
theorem nums_all (m : Nat) : nums (2 ^ m - 1) m = allL m := by
  unfold nums allL
  congr 1
  rw [List.filter_eq_self]
  intro i hi
  rw [all_bit]; simpa using hi
/-- Is spot j seen from one site only? -/
def onceB (L : List (List Int)) (j : Nat) : Bool := decide (cntS L (allL L.length) j = 1)
def ndB (L : List (List Int)) (n i : Nat) : Bool := (List.range n).any fun j => hsB L i j && onceB L j
def nsTo (L : List (List Int)) (n k : Nat) : List Int := ((List.range k).filter (ndB L n)).map fun i : Nat => (i : Int)
theorem nsTo_yes {L : List (List Int)} {n k : Nat} (h : ndB L n k = true) : nsTo L n (k + 1) = nsTo L n k ++ [(k : Int)] := by simp [nsTo, List.range_succ, h]
theorem nsTo_no {L : List (List Int)} {n k : Nat} (h : ndB L n k = false) : nsTo L n (k + 1) = nsTo L n k := by simp [nsTo, List.range_succ, h]
theorem nsTo_len (L : List (List Int)) (n k : Nat) : (nsTo L n k).length ≤ k := by
  unfold nsTo; rw [List.length_map]; exact Nat.le_trans (List.length_filter_le _ _) (by simp)
theorem nsTo_ris (L : List (List Int)) (n k : Nat) : Ris (nsTo L n k) 0 k := by
  refine ⟨?_, fun x hx => ?_⟩
  · unfold nsTo
    rw [List.pairwise_map]
    exact (List.pairwise_lt_range.filter _).imp fun h => by omega
  · simp only [nsTo, List.mem_map, List.mem_filter, List.mem_range] at hx
    obtain ⟨i, hi, rfl⟩ := hx; omega
def nsL (L : List (List Int)) (n : Int) : List Int := if stB L n then nsTo L n.toNat L.length else []
theorem nsL_no {L : List (List Int)} {n : Int} (h : stB L n = false) : nsL L n = [] := by simp [nsL, h]
theorem nsL_yes {L : List (List Int)} {n : Int} (h : stB L n = true) : nsL L n = nsTo L n.toNat L.length := by simp [nsL, h]
theorem nsL_len (L : List (List Int)) (n : Int) : (nsL L n).length ≤ 12 := by
  cases h : stB L n with
  | false => rw [nsL_no h]; simp
  | true => rw [nsL_yes h]; have := nsTo_len L n.toNat L.length; have := (stB_iff.1 h).1.m2; omega
def NsPost (L : List (List Int)) (n : Int) (w : World) (e : Ending) (w' : World) : Prop :=
  ∃ v, e = .returned (.tuple #[v, .bool (stB L n)]) ∧ Own w' w.heap.size v (nsL L n) ∧ Below w.heap.size w w'
theorem NsPost.no {L : List (List Int)} {n : Int} {w w' : World} (h : stB L n = false) (hb : Below w.heap.size w w') : NsPost L n w (.returned (.tuple #[.slice none 0 0, .bool false])) w' :=
  ⟨_, by rw [h], by rw [nsL_no h]; exact Own.nil _ _, hb⟩
theorem NsPost.yes {L : List (List Int)} {n : Int} {w w' : World} {v : Value} (h : stB L n = true) (ho : Own w' w.heap.size v (nsTo L n.toNat L.length)) (hb : Below w.heap.size w w') : NsPost L n w (.returned (.tuple #[v, .bool true])) w' :=
  ⟨_, by rw [h], by rw [nsL_yes h]; exact ho, hb⟩

/-! ### a number put behind smaller ones -/
theorem put_behind {zs : List Int} {k : Nat} (h : Ris zs 0 k) : putB zs k = false ∧ putN zs k = zs ++ [(k : Int)] := by
  have hk : putK zs k = zs.length := putK_eq (Nat.le_refl _) (fun j hj => by have := h.get j hj; unfold nth; omega) (fun h => absurd h (Nat.lt_irrefl _))
  refine ⟨by simp [putB, hk], by simp [putN, hk]⟩
theorem put_there {zs : List Int} {k : Nat} (h : Ris zs 0 k) : putB (zs ++ [(k : Int)]) k = true := by
  have hn : nth (zs ++ [(k : Int)]) zs.length = k := by simp [nth]
  have hk : putK (zs ++ [(k : Int)]) k = zs.length := putK_eq (by simp) (fun j hj => by
    have := h.get j hj
    have e : nth (zs ++ [(k : Int)]) j = zs[j]?.getD 0 := by simp [nth, List.getElem?_append_left hj]
    rw [e]; omega) (fun _ => by rw [hn]; omega)
  simp [putB, hk, hn]

set_option maxRecDepth 100000 in
theorem stAll_any (v : Value) (L : List (List Int)) (w : World) (hm : L.length ≤ 12) (hr : RdJ w v L) :
    Calls Try.prog 66 #[v] w fun e w' => ∃ v', e = .returned v' ∧ Own w' w.heap.size v' (allL L.length) ∧ Below w.heap.size w w' := by
  obtain ⟨a, cap, rfl, -⟩ := hr.len
  clear hr
  obtain ⟨m, hme⟩ : ∃ m, m = L.length := ⟨_, rfl⟩
  rw [← hme] at hm ⊢
  clear hme
  go_enter Try.func66, Try.ntmps66
  go_wp2
  go_loopw [3, 7] (fun v i wr => ∃ k : Nat, k ≤ m ∧ i = .int .i64 k ∧ Own wr w.heap.size v (allL k) ∧ Below w.heap.size w wr) (fun _ i _ => m - (intOf i).toNat)
  case atStart => exact ⟨0, Nat.zero_le _, rfl, Own.nil _ _, Below.refl _ _⟩
  case round =>
    obtain ⟨k, hk, rfl, hown, hbel⟩ := hrel
    have hlen := allL_len k
    by_cases hlt : k < m
    · have hs := Lib.hid (allL_succ k)
      have hsz := hbel.size
      have hl2 : (allL k).length ≤ 1099511627776 := by rw [hlen]; omega
      clear hlen
      go_wp2_with (at_builtin; refine append_int rfl _ _ rfl w.heap.size _ (allL k) (k : Int) wr.heap.size rfl rfl (hown.alloc _) (new_cell _ _ _) hl2 (by simp; omega) ?_; intro v' w1 hown1 hgrow1)
      go_roundw
      case rel => exact ⟨k + 1, by omega, by go_num, by rw [hs.out]; exact hown1, (hbel.alloc hsz _).grown hgrow1 (by simp; omega) (fun j hj => (hown.lt j hj).1)⟩
      case measure => simp [intOf]; omega
    · obtain rfl : k = m := by omega
      clear hlen
      go_wp2
      go_ret
      exact ⟨_, rfl, hown, hbel⟩

/-- The list while the spots of site k are looked at. -/
def nsMid (L : List (List Int)) (n k q : Nat) : List Int := nsTo L n k ++ if ((rowAt L k).take q).any fun x => onceB L x.toNat then [(k : Int)] else []
theorem nsMid_zero (L : List (List Int)) (n k : Nat) : nsMid L n k 0 = nsTo L n k := by simp [nsMid]
theorem nsMid_all {L : List (List Int)} {n k : Nat} (ok : StOk L n) : nsMid L n k (rowAt L k).length = nsTo L n (k + 1) := by
  have e : ((rowAt L k).any fun x => onceB L x.toNat) = ndB L n k := by
    rw [Bool.eq_iff_iff]
    simp only [ndB, List.any_eq_true, List.mem_range, Bool.and_eq_true, hsB, decide_eq_true_eq]
    constructor
    · rintro ⟨x, hx, h⟩
      have := (ok.ris k).2 x hx
      exact ⟨x.toNat, by omega, by rwa [show ((x.toNat : Nat) : Int) = x by omega], h⟩
    · rintro ⟨j, -, hj, h⟩
      exact ⟨j, hj, by simpa using h⟩
  unfold nsMid
  rw [List.take_length, e]
  cases h : ndB L n k with
  | true => rw [nsTo_yes h]; simp
  | false => rw [nsTo_no h]; simp
theorem nsMid_len (L : List (List Int)) (n k q : Nat) : (nsMid L n k q).length ≤ k + 1 := by
  have := nsTo_len L n k
  unfold nsMid
  split <;> simp <;> omega
theorem nsMid_no {L : List (List Int)} {n k q : Nat} (hq : q < (rowAt L k).length) (h : onceB L ((rowAt L k)[q]?.getD 0).toNat = false) : nsMid L n k (q + 1) = nsMid L n k q := by
  unfold nsMid
  rw [List.take_succ_eq_append_getElem hq, List.any_append]
  simp only [hq, getElem?_pos, Option.getD_some] at h
  simp [h]
theorem nsMid_put {L : List (List Int)} {n k q : Nat} (hq : q < (rowAt L k).length) (h : onceB L ((rowAt L k)[q]?.getD 0).toNat = true) :
    (putB (nsMid L n k q) k = true ∧ nsMid L n k (q + 1) = nsMid L n k q) ∨ (putB (nsMid L n k q) k = false ∧ nsMid L n k (q + 1) = putN (nsMid L n k q) k) := by
  have e : nsMid L n k (q + 1) = nsTo L n k ++ [(k : Int)] := by
    unfold nsMid
    rw [List.take_succ_eq_append_getElem hq, List.any_append]
    simp only [hq, getElem?_pos, Option.getD_some] at h
    simp [h]
  have hr := nsTo_ris L n k
  cases hb : ((rowAt L k).take q).any fun x => onceB L x.toNat with
  | true =>
    have e2 : nsMid L n k q = nsTo L n k ++ [(k : Int)] := by unfold nsMid; rw [hb]; simp
    left
    rw [e, e2]
    exact ⟨put_there hr, rfl⟩
  | false =>
    have e2 : nsMid L n k q = nsTo L n k := by unfold nsMid; rw [hb]; simp
    right
    rw [e, e2]
    exact ⟨(put_behind hr).1, (put_behind hr).2.symm⟩

set_option maxRecDepth 100000 in
set_option maxHeartbeats 4000000 in
theorem specNeededSites_any (v : Value) (L : List (List Int)) (n : Int) (w : World) (hr : RdJ w v L) :
    Calls Try.prog 22 #[v, .int .i64 n] w (NsPost L n w) := by
  have C0 := Lib.hid (stGood_any v L n w hr)
  cases hs : stB L n with
  | false =>
    have hf := Lib.hid hs
    rw [hs] at C0
    clear hs hr
    go_enter Try.func22, Try.ntmps22
    go_wp2_with fail
    refine C0.out.mono ?_
    rintro e w1 ⟨rfl, rfl⟩
    go_wp2
    go_ret2
    exact NsPost.no hf.out (Below.refl _ _)
  | true =>
    rw [hs] at C0
    have HS := Lib.hid hs
    obtain ⟨ok, hne⟩ := stB_iff.1 hs
    obtain ⟨N, hN⟩ : ∃ N, n.toNat = N := ⟨_, rfl⟩
    rw [hN] at ok hne
    subst hne
    have hm2 := ok.m2
    have hn2 := ok.n2
    have OK := Lib.hid ok
    have HR := Lib.hid hr
    have C1 := Lib.hid (stAll_any v L w hm2 hr)
    have CT := Lib.hid (fun (u : Value) (W : World) (hW : Below w.heap.size w W) (hu : Rd W u (allL L.length)) => stTimes_any v u L N (allL L.length) W ok (allL_ris _).2 (by rw [allL_len]; omega) (hr.below hW (Nat.le_refl _)) hu)
    obtain ⟨a, cap, rfl, -⟩ := hr.len
    obtain ⟨m, hme⟩ : ∃ m, m = L.length := ⟨_, rfl⟩
    rw [← hme] at hm2 C0 HR C1 CT ⊢
    have HM := Lib.hid hme
    clear hs hN ok hme hr
    go_enter Try.func22, Try.ntmps22
    go_wp2_with fail
    refine C0.out.mono ?_
    rintro e w1 ⟨rfl, rfl⟩
    go_wp2_with fail
    refine C1.out.mono ?_
    rintro e w1 ⟨v1, rfl, ho1, hb1⟩
    have C2 := Lib.hid (CT.out v1 w1 hb1 ho1.rd)
    obtain ⟨a1, c1, rfl⟩ := ho1.rd.len
    rw [allL_len] at C2 ⊢
    clear ho1 CT
    go_wp2_with fail
    refine C2.out.mono ?_
    rintro e w2 ⟨v2, rfl, ho2, hb2⟩
    have hB2 := hb1.trans (hb2.mono hb1.size)
    obtain ⟨a2, y2, c2, rfl, hy2⟩ := ho2.f
    rw [cntL_len] at hy2
    subst hy2
    have HRD := Lib.hid ho2.rd
    have HA := Lib.hid (show ∀ j, cntS L (allL m) j ≤ 12 from fun j => Nat.le_trans (cntS_le _ _ _) (by rw [allL_len]; omega))
    clear ho2
    go_wp2
    go_loopw [6, 23] (fun ov iv wr => ∃ k : Nat, k ≤ m ∧ iv = .int .i64 k ∧ Own wr w2.heap.size ov (nsTo L N k) ∧ Below w2.heap.size w2 wr) (fun _ iv _ => m - (intOf iv).toNat)
    case atStart => exact ⟨0, Nat.zero_le _, rfl, Own.nil _ _, Below.refl _ _⟩
    case round =>
      obtain ⟨k, hk, rfl, hown, hb⟩ := hrel
      by_cases hlt : k < m
      · have hBr := hB2.trans (hb.mono hB2.size)
        obtain ⟨g, off, ur, rfl, hg, q2, hrow⟩ := (HR.out.below hBr (Nat.le_refl _)).at_ HM.out k hlt
        obtain ⟨ra, rc, rfl⟩ := hrow.rd.len
        have hrl := hrow.rd.max
        unfold maxLen at hrl
        obtain ⟨r, hre⟩ : ∃ r, r = (rowAt L k).length := ⟨_, rfl⟩
        have HRE := Lib.hid hre
        have HROW := Lib.hid (fun W (h : Below wr.heap.size wr W) => hrow.rd.later h)
        have hmid := hown
        rw [← nsMid_zero L N k] at hmid
        rw [← hre] at hrl HROW q2
        clear hre hrow hown
        go_wp2
        go_loopw [6, 30] (fun ov iv wq => ∃ q : Nat, q ≤ r ∧ iv = .int .i64 q ∧ Own wq w2.heap.size ov (nsMid L N k q) ∧ Below wr.heap.size wr wq) (fun _ iv _ => r - (intOf iv).toNat)
        case atStart => exact ⟨0, Nat.zero_le _, rfl, hmid, Below.refl _ _⟩
        case round =>
          clear hmid
          obtain ⟨q, hq, rfl, hown, hbq⟩ := hrel
          have hlen := nsMid_len L N k q
          have hB3 := hb.trans (hbq.mono hb.size)
          by_cases hqr : q < r
          · obtain ⟨g3, o3, rfl, hg3, q3⟩ := (HROW.out _ hbq).at_ HRE.out q hqr
            have hql : q < (rowAt L k).length := by have := HRE.out; omega
            have hge := (OK.out.ris k).get q hql
            obtain ⟨s, hs⟩ : ∃ s : Nat, (rowAt L k)[q]?.getD 0 = (s : Int) := ⟨((rowAt L k)[q]?.getD 0).toNat, by omega⟩
            rw [hs] at q3 hge
            have hsN : s < N := by omega
            obtain ⟨g4, o4, rfl, hg4, q4⟩ := (HRD.out.below hB3 (Nat.le_refl _)).at_ (by rw [cntL_len]) s hsN
            rw [cntL_get _ _ _ _ hsN] at q4
            have hc12 := HA.out s
            cases ho : onceB L s with
            | true =>
              have hput := nsMid_put (n := N) hql (by rw [hs]; simpa using ho)
              have hc1 : cntS L (allL m) s = 1 := by rw [HM.out]; simpa [onceB] using ho
              rw [hc1] at q4
              have CP := Lib.hid (l1Put_any _ (nsMid L N k q) k _ (by omega) hown.rdc)
              have HP := Lib.hid hput
              have HO := Lib.hid hown
              obtain ⟨a5, y5, c5, rfl, hy5⟩ := hown.f
              clear hput hown ho hs hge hc1 hc12 hy5
              go_wp2_with fail
              refine CP.out.mono ?_
              rintro e w5 ⟨v5, rfl, hv5, hb5⟩
              have HN : Hid (Own w5 w2.heap.size v5 (nsMid L N k (q + 1))) := Lib.hid (by
                rcases hv5 with ⟨h1, h2⟩ | ⟨h1, h2⟩
                · rcases HP.out with ⟨h3, h4⟩ | ⟨h3, h4⟩
                  · rw [h1, h4]; exact HO.out.later hb5
                  · rw [h3] at h2; cases h2
                · rcases HP.out with ⟨h3, h4⟩ | ⟨h3, h4⟩
                  · rw [h3] at h1; cases h1
                  · rw [h4]; exact h2.base (by have := hB3.size; omega))
              clear hv5
              go_wp2
              go_roundw
              case rel => exact ⟨q + 1, by omega, by go_num, HN.out, hbq.trans (hb5.mono hbq.size)⟩
              case measure => simp [intOf]; omega
            | false =>
              have hmid' := Lib.hid (nsMid_no (n := N) hql (by rw [hs]; simpa using ho))
              have hc1 : ¬ cntS L (allL m) s = 1 := by rw [HM.out]; simpa [onceB] using ho
              have hne : ((cntS L (allL m) s : Int) == 1) = false := by rw [beq_eq_false_iff_ne]; omega
              generalize cntS L (allL m) s = x at q4 hne
              clear ho hs hge hc1 hc12
              go_wp2
              go_roundw
              case rel => exact ⟨q + 1, by omega, by go_num, by rw [hmid'.out]; exact hown, hbq⟩
              case measure => simp [intOf]; omega
          · obtain rfl : q = r := by omega
            have hE : Hid (nsMid L N k q = nsTo L N (k + 1)) := Lib.hid (by rw [HRE.out]; exact nsMid_all OK.out)
            go_wp2
            go_roundw
            case rel => exact ⟨k + 1, by omega, by go_num, by rw [← hE.out]; exact hown, hB3⟩
            case measure => simp [intOf]; omega
      · obtain rfl : k = m := by omega
        have HO := Lib.hid (hown.base hB2.size)
        have hBB := hB2.trans (hb.mono hB2.size)
        clear hown
        go_wp2
        go_ret2
        exact NsPost.yes HS.out (by rw [← HM.out, Int.toNat_natCast]; exact HO.out) hBB
end Go.Proofs.Ytpmdjdlojbpcfaa
