/- Texts: ReadSignals of both sides. -/
import Derived.Test.YtkmdionldaejjaaDoorTx7
namespace Go.Proofs.YtkmdionldaejjaaDoor
open Go.RowKit
set_option linter.unusedSimpArgs false
set_option linter.unusedVariables false

theorem joinW_snoc (b x : List UInt8) : ∀ (ws : List (List UInt8)), ws ≠ [] → joinW b (ws ++ [x]) = joinW b ws ++ b ++ x
  | [], h => absurd rfl h
  | [y], _ => by simp [joinW]
  | y :: z :: r, _ => by
    have := joinW_snoc b x (z :: r) (by simp)
    have e1 : joinW b (y :: (z :: r ++ [x])) = y ++ b ++ joinW b (z :: r ++ [x]) := joinW_cons b y _ (by simp)
    have e2 : joinW b (y :: z :: r) = y ++ b ++ joinW b (z :: r) := joinW_cons b y _ (by simp)
    rw [List.cons_append, e1, this, e2]
    simp only [List.append_assoc]
theorem lineTo_join (b : UInt8) (zs : List Int) (k : Nat) (hk : k + 1 ≤ zs.length) : lineTo b zs (k + 1) = joinW [b] ((zs.take (k + 1)).map fun z => dec z.toNat) := by
  induction k with
  | zero =>
    cases zs with
    | nil => simp at hk
    | cons z zs => simp [lineTo, joinW]
  | succ k ih =>
    have h := ih (by omega)
    have hk' : k + 1 < zs.length := by omega
    have e : lineTo b zs (k + 1 + 1) = lineTo b zs (k + 1) ++ ((if k + 1 = 0 then [] else [b]) ++ dec (zs[k + 1]?.getD 0).toNat) := rfl
    rw [e, h, List.take_succ_eq_append_getElem hk', List.map_append, List.map_cons, List.map_nil, joinW_snoc _ _ _ (by simp; intro h0; rw [h0] at hk'; simp at hk'), if_neg (by omega)]
    simp [hk']

/-- What the model reads. -/
def rsV (s : ByteArray) : List Int := (wdB 32 s).map fun x => rd6 x.data.toList
def rsB (s : ByteArray) : Bool := decide (s.size = 0) || lsB (rsV s)
def rsL (s : ByteArray) : List Int := if s.size = 0 then [] else if lsB (rsV s) then rsV s else []
theorem rsV_len (s : ByteArray) : (rsV s).length = (wdB 32 s).length := by simp [rsV]
theorem rsV_at {s : ByteArray} {k : Nat} {x : ByteArray} (h : (wdB 32 s)[k]? = some x) : (rsV s)[k]?.getD 0 = rd6 x.data.toList := by simp [rsV, h]
theorem rsL_len (s : ByteArray) : (rsL s).length ≤ 100 := by
  unfold rsL
  split
  · simp
  · cases h : lsB (rsV s) with
    | false => simp
    | true => simp only [if_true]; exact lsB_len h
theorem rsV_line {s : ByteArray} (h : lsB (rsV s) = true) : lineS 32 (rsV s) (rsV s).length = s := by
  apply str_ext
  have hl : 1 ≤ (rsV s).length := by
    rw [rsV_len]
    rcases Nat.eq_zero_or_pos (wdB 32 s).length with h0 | h0
    · exact absurd (List.length_eq_zero_iff.1 h0) (wdB_ne _ _)
    · exact h0
  have e : (lineS 32 (rsV s) (rsV s).length).data.toList = lineTo 32 (rsV s) (rsV s).length := by simp [lineS]
  obtain ⟨k, hk⟩ : ∃ k, (rsV s).length = k + 1 := ⟨(rsV s).length - 1, by omega⟩
  rw [e, hk, lineTo_join 32 (rsV s) k (by omega), ← hk, List.take_length]
  have e2 : (rsV s).map (fun z => dec z.toNat) = splW 32 s.data.toList := by
    apply List.ext_getElem?
    intro i
    by_cases hi : i < (rsV s).length
    · have hi2 : i < (wdB 32 s).length := by rw [← rsV_len]; exact hi
      have hx := rsV_at (s := s) (k := i) (List.getElem?_eq_getElem hi2)
      have hg := lsB_get h i hi
      rw [hx] at hg
      have hd := (dec_of_rd6 hg.1).1
      have hi3 : i < (splW 32 s.data.toList).length := by have : (wdB 32 s).length = (splW 32 s.data.toList).length := by simp [wdB]
                                                          omega
      rw [List.getElem?_map, List.getElem?_eq_getElem hi, List.getElem?_eq_getElem hi3]
      have h1 : (rsV s)[i] = rd6 ((wdB 32 s)[i]).data.toList := by rw [← hx]; simp [hi]
      have h2 : ((wdB 32 s)[i]).data.toList = (splW 32 s.data.toList)[i] := by simp [wdB, toB]
      simp only [Option.map_some, h1]
      rw [hd, h2]
    · have h3 : (splW 32 s.data.toList).length = (rsV s).length := by simp [rsV, wdB]
      rw [List.getElem?_eq_none (by simp; omega), List.getElem?_eq_none (by omega)]
  rw [e2, joinW_splW]

set_option maxRecDepth 100000 in
set_option maxHeartbeats 800000 in
theorem sgParse_any (s : ByteArray) (w : World) (hs : s.size ≤ 1073741824) :
    Calls Tryd.prog 28 #[.string s] w fun e w' => ∃ v, e = .returned (.tuple #[v, .bool (rsB s)]) ∧ OwnI w' w.heap.size w'.heap.size v (rsL s) ∧ Below w.heap.size w w' := by
  by_cases hz : s.size = 0
  · have hs0 : s = ⟨#[]⟩ := str_ext (by
      have : s.data.toList.length = 0 := by rw [byt_len]; exact hz
      rw [List.length_eq_zero_iff.1 this])
    have hB : Hid (rsB s = true ∧ rsL s = []) := Lib.hid ⟨by simp [rsB, hz], by simp [rsL, hz]⟩
    clear hz
    subst hs0
    go_enter Tryd.func28, Tryd.ntmps28
    go_wp2
    go_ret2
    exact ⟨_, by rw [hB.out.1]; rfl, by rw [hB.out.2]; exact (Own.nil _ _).iv, Below.refl _ _⟩
  · have hne := str_ne (a := s) (b := ⟨#[]⟩) (fun e => hz (by rw [e]; rfl))
    have hne2 : (s.toList == []) = false := by
      rw [beq_eq_false_iff_ne, ByteArray.toList_eq]
      intro e
      apply hz
      rw [← byt_len, e]; rfl
    have hRB : Hid (rsB s = lsB (rsV s)) := Lib.hid (by simp [rsB, hz])
    have hRL : Hid (∀ c, lsB (rsV s) = c → rsL s = if c then rsV s else []) := Lib.hid fun c h => by simp [rsL, hz, h]
    have HAT := Lib.hid (fun k x => rsV_at (s := s) (k := k) (x := x))
    have HSZ : Hid (∀ x ∈ wdB 32 s, x.size ≤ 1099511627776) := Lib.hid fun x hx => by have := wdB_size hx; omega
    have hwl := wdB_len 32 s
    have HLINE := Lib.hid (fun h => rsV_line (s := s) h)
    clear hz
    go_enter Tryd.func28, Tryd.ntmps28
    go_wp2_with fail
    have hsp := l1Split_any s 32 w hs
    have e32 : (((32 : UInt8).toNat : Nat) : Int) = 32 := rfl
    rw [e32] at hsp
    refine hsp.mono ?_
    rintro e w1 ⟨v, rfl, hown, hb1⟩
    clear hsp e32
    obtain ⟨g, cp, rfl, hgB, hgs, hc1, hc2⟩ := hown.form (wdB_ne 32 s)
    have hC : Hid (∀ (j : Nat) x, (wdB 32 s)[j]? = some x → w1.cell? ⟨g, j, none⟩ = some (.string x)) := Lib.hid fun j x h => hown.cells j x h
    obtain ⟨n, hn⟩ : ∃ n, n = (wdB 32 s).length := ⟨_, rfl⟩
    rw [← hn] at hwl hc1 ⊢
    have HVL : Hid ((rsV s).length = n) := Lib.hid (by rw [rsV_len, hn])
    have HN := Lib.hid hn
    unfold maxLen at hc2
    have hs1 := hb1.size
    clear hn hown
    go_wp2
    go_loopw [4, 12] (fun u i wr => ∃ k : Nat, k ≤ n ∧ i = .int .i64 k ∧ Own wr w1.heap.size u ((rsV s).take k) ∧ Below w.heap.size w wr ∧ Below w1.heap.size w1 wr) (fun u i wr => n - (intOf i).toNat)
    case atStart => exact ⟨0, Nat.zero_le _, rfl, Own.nil _ _, hb1, Below.refl _ _⟩
    case round =>
      obtain ⟨k, hk, rfl, hown, hbl, hbl1⟩ := hrel
      have hsz := hbl.size
      have hsz1 := hbl1.size
      by_cases hlt : k < n
      · obtain ⟨x, hx⟩ : ∃ x, (wdB 32 s)[k]? = some x := ⟨(wdB 32 s)[k]'(by rw [← HN.out]; exact hlt), List.getElem?_eq_getElem (by rw [← HN.out]; exact hlt)⟩
        have q : wr.cell? ⟨g, k, none⟩ = some (.string x) := by
          rw [hbl1.cell (p := ⟨g, k, none⟩) hgs]; exact hC.out k x hx
        have hxs := HSZ.out x (List.mem_of_getElem? hx)
        have hva := HAT.out k x hx
        have hst : Hid ((rsV s).take (k + 1) = (rsV s).take k ++ [rd6 x.data.toList]) := Lib.hid (by
          have hkl : k < (rsV s).length := by rw [HVL.out]; exact hlt
          rw [List.take_succ_eq_append_getElem hkl]
          congr 2
          rw [← hva]; simp [hkl])
        have htl : ((rsV s).take k).length ≤ 1099511627776 := by rw [List.length_take]; omega
        clear hva hx
        go_wp2_with (first
          | (go_at_call 39; refine (l1Read_any x _ hxs).mono ?_; rintro e w' ⟨rfl, rfl⟩)
          | (at_builtin; refine append_int rfl _ _ rfl w1.heap.size _ ((rsV s).take k) (rd6 x.data.toList) wr.heap.size rfl rfl (hown.alloc _) (new_cell _ _ _) htl (by simp; omega) ?_; intro v2 w2 hown2 hg2))
        go_roundw
        case rel => exact ⟨k + 1, by omega, by go_num, by rw [hst.out]; exact hown2, (hbl.alloc hsz _).grown hg2 (by simp; omega) (fun j hj => by have := (hown.lt j hj).1; omega), (hbl1.alloc hbl1.size _).grown hg2 (by have := hbl1.size; simp; omega) (fun j hj => (hown.lt j hj).1)⟩
        case measure => simp [intOf]; omega
      · obtain rfl : k = n := by omega
        have hfull : Hid ((rsV s).take k = rsV s) := Lib.hid (by rw [← HVL.out, List.take_length])
        rw [hfull.out] at hown
        have hrd := Lib.hid hown.rd
        cases hl : lsB (rsV s) with
        | false =>
          go_wp2_with (go_at_call 24; refine (sgList_any _ (rsV s) _ hrd.out).mono ?_; rintro e w' ⟨rfl, rfl⟩)
          go_ret2
          exact ⟨_, by rw [hRB.out, hl]; rfl, by rw [hRL.out false hl]; exact (Own.nil _ _).iv, hbl⟩
        | true =>
          have hline := HLINE.out hl
          go_wp2_with fail
          refine (sgList_any _ (rsV s) _ hrd.out).mono ?_
          rintro e w' ⟨rfl, rfl⟩
          rw [hl]
          go_wp2_with fail
          refine (sgLine_any _ (rsV s) _ hrd.out hl).mono ?_
          rintro e w2 ⟨rfl, hb2⟩
          rw [hline]
          have hbz := hbl.trans (hb2.mono hsz)
          have hownz := Lib.hid (hown.later hb2)
          clear hline hown
          go_wp2
          go_ret2
          exact ⟨_, by rw [hRB.out, hl]; rfl, by rw [hRL.out true hl]; exact (hownz.out.base hs1).iv, hbz⟩
end Go.Proofs.YtkmdionldaejjaaDoor
