/- Texts read by the program: numbers with a byte between them. -/
import Derived.Test.YtkmdionldaejjaaDoorTx6
namespace Go.Proofs.YtkmdionldaejjaaDoor
open Go.RowKit
set_option linter.unusedSimpArgs false
set_option linter.unusedVariables false

theorem splW_mem (b : UInt8) : ∀ (l : List UInt8), ∀ x ∈ splW b l, x.length ≤ l.length
  | [], x, h => by simp [splW] at h; simp [h]
  | c :: r, x, h => by
    have ih := splW_mem b r
    unfold splW at h
    split at h
    · rcases List.mem_cons.1 h with rfl | h
      · simp
      · have := ih x h; simp; omega
    · cases hs : splW b r with
      | nil => exact absurd hs (splW_ne b r)
      | cons y ys =>
        rw [hs] at h ih
        simp only [attach] at h
        rcases List.mem_cons.1 h with rfl | h
        · have := ih y (by simp); simp; omega
        · have := ih x (by simp [h]); simp; omega
theorem wdB_len (b : UInt8) (s : ByteArray) : (wdB b s).length ≤ s.size + 1 := by
  have := splW_len b s.data.toList
  unfold wdB; rw [List.length_map]; simpa using this
theorem wdB_ne (b : UInt8) (s : ByteArray) : wdB b s ≠ [] := by unfold wdB; simp [splW_ne]
theorem wdB_size {b : UInt8} {s x : ByteArray} (h : x ∈ wdB b s) : x.size ≤ s.size := by
  unfold wdB at h
  obtain ⟨y, hy, rfl⟩ := List.mem_map.1 h
  have := splW_mem b _ y hy
  have e : (toB y).size = y.length := by simp [toB, ByteArray.size]
  rw [e]; simpa using this
def pcB (b : UInt8) (m : Nat) (s : ByteArray) : List ByteArray := Lib.splitB ⟨#[b]⟩ 0 (min (m + 1) (s.size + 1) - 1) s
theorem pcB_map (b : UInt8) (m : Nat) (s : ByteArray) : (pcB b m s).map (·.data.toList) = splN b (min (m + 1) (s.size + 1) - 1) s.data.toList := by
  unfold pcB
  rw [Lib.splitB_data, ← splitK_eq]
theorem pcB_few {b : UInt8} {m : Nat} {s : ByteArray} (h : (wdB b s).length ≤ m) : pcB b m s = wdB b s := by
  have hl := wdB_len b s
  have h1 := pcB_map b m s
  have h2 : (splW b s.data.toList).length = (wdB b s).length := by simp [wdB]
  rw [splN_all b _ _ (by rw [h2]; omega)] at h1
  unfold wdB
  rw [← h1, List.map_map]
  have : (toB ∘ fun x : ByteArray => x.data.toList) = id := by funext x; exact toB_of x
  rw [this, List.map_id]
theorem pcB_many {b : UInt8} {m : Nat} {s : ByteArray} (h : m < (wdB b s).length) : (pcB b m s).length = m + 1 := by
  have hl := wdB_len b s
  have h1 := congrArg List.length (pcB_map b m s)
  have h2 : (splW b s.data.toList).length = (wdB b s).length := by simp [wdB]
  have hK : min (m + 1) (s.size + 1) - 1 = m := by omega
  rw [hK, List.length_map] at h1
  rw [h1]
  by_cases he : (wdB b s).length = m + 1
  · rw [splN_all b _ _ (by omega), h2, he]
  · exact splN_more b _ _ (by omega)

/-- The numbers of a text; whether it is one of at most m. -/
def rnsV (b : UInt8) (s : ByteArray) : List Int := (wdB b s).map fun x => (rnO x.data.toList).getD 0
def rnsG (b : UInt8) (s : ByteArray) : Bool := (wdB b s).all fun x => (rnO x.data.toList).isSome
def rnsB (m : Nat) (b : UInt8) (s : ByteArray) : Bool := decide (s.size = 0) || (decide ((wdB b s).length ≤ m) && rnsG b s)
def rnsL (m : Nat) (b : UInt8) (s : ByteArray) : List Int := if s.size = 0 then [] else if rnsB m b s then rnsV b s else []
theorem rnsV_len (b : UInt8) (s : ByteArray) : (rnsV b s).length = (wdB b s).length := by simp [rnsV]
theorem rnsV_at {b : UInt8} {s : ByteArray} {k : Nat} {x : ByteArray} (h : (wdB b s)[k]? = some x) : (rnsV b s)[k]?.getD 0 = (rnO x.data.toList).getD 0 := by simp [rnsV, h]
theorem rnsL_len (m : Nat) (b : UInt8) (s : ByteArray) : (rnsL m b s).length ≤ m := by
  unfold rnsL
  split
  · simp
  · next h =>
    cases hb : rnsB m b s with
    | false => simp
    | true =>
      simp only [rnsB, h, decide_false, Bool.false_or, Bool.and_eq_true, decide_eq_true_eq] at hb
      simp only [if_true]
      rw [rnsV_len]; exact hb.1

set_option maxRecDepth 100000 in
set_option maxHeartbeats 1600000 in
theorem readNumbers_any (s : ByteArray) (b : UInt8) (m : Nat) (w : World) (hs : s.size ≤ 1073741824) (hm : m ≤ 1000) (hT : TxW w) :
    Calls Tryd.prog 29 #[.string s, .string ⟨#[b]⟩, .int .i64 m] w fun e w' => ∃ v, e = .returned (.tuple #[v, .bool (rnsB m b s)]) ∧ OwnI w' w.heap.size w'.heap.size v (rnsL m b s) ∧ Below w.heap.size w w' := by
  by_cases hz : s.size = 0
  · have hs0 : s = ⟨#[]⟩ := str_ext (by
      have : s.data.toList.length = 0 := by rw [byt_len]; exact hz
      rw [List.length_eq_zero_iff.1 this])
    have hB : Hid (rnsB m b s = true ∧ rnsL m b s = []) := Lib.hid ⟨by simp [rnsB, hz], by simp [rnsL, hz]⟩
    clear hz
    subst hs0
    go_enter Tryd.func29, Tryd.ntmps29
    go_wp2
    go_ret2
    exact ⟨_, by rw [hB.out.1]; rfl, by rw [hB.out.2]; exact (Own.nil _ _).iv, Below.refl _ _⟩
  · have hne := str_ne (a := s) (b := ⟨#[]⟩) (fun e => hz (by rw [e]; rfl))
    have hne2 : (s.toList == []) = false := by
      rw [beq_eq_false_iff_ne, ByteArray.toList_eq]
      intro e
      apply hz
      rw [← byt_len, e]; rfl
    obtain ⟨i0, hi, hz0, hz1, hz2⟩ := info_parts Tryd_info_int
    obtain ⟨mx, hmx⟩ := hT.maxl
    have hsp := Tryd.strings_SplitN s ⟨#[b]⟩ (m + 1) mx w (by omega) hmx (Nat.le_refl 1) (by omega) (by omega)
    have eM : ((m + 1 : Nat) : Int) = (m : Int) + 1 := by omega
    rw [eM] at hsp
    have hRB : Hid (rnsB m b s = (decide ((wdB b s).length ≤ m) && rnsG b s)) := Lib.hid (by simp [rnsB, hz])
    have hRL : Hid (∀ c, rnsB m b s = c → rnsL m b s = if c then rnsV b s else []) := Lib.hid fun c h => by simp [rnsL, hz, h]
    have hfew := Lib.hid (pcB_few (b := b) (m := m) (s := s))
    have hmany := Lib.hid (pcB_many (b := b) (m := m) (s := s))
    have HSP := Lib.hid hsp
    have HT := Lib.hid hT
    clear hsp hT hz eM
    go_enter Tryd.func29, Tryd.ntmps29
    go_wp2_with fail
    refine HSP.out.mono ?_
    rintro e w1 ⟨rfl, hw1⟩
    have hP : Lib.splitB ⟨#[b]⟩ 0 (min (m + 1) (s.size + 1) - 1) s = pcB b m s := rfl
    rw [hP] at hw1 ⊢
    have hC : Hid (∀ (j : Nat) x, (pcB b m s)[j]? = some x → w1.cell? ⟨w.heap.size, j, none⟩ = some (.string x)) := Lib.hid fun j x h => by
      obtain ⟨hj, rfl⟩ := List.getElem?_eq_some_iff.1 h
      rw [hw1]
      have e : (w.alloc (.cells (Lib.cellsOf (pcB b m s) (min (m + 1) (s.size + 1))) 9)).cell? ⟨w.heap.size, j, none⟩ = (Lib.cellsOf (pcB b m s) (min (m + 1) (s.size + 1)))[j]? := by
        simp only [World.cell?, World.alloc, Array.getElem?_push_size]; rfl
      rw [e]
      unfold Lib.cellsOf
      rw [List.getElem?_toArray, List.getElem?_append_left (by simpa using hj), List.getElem?_map, List.getElem?_eq_getElem hj]
      rfl
    have hb1 : Below w.heap.size w w1 := by rw [hw1]; exact (Below.refl _ _).alloc (Nat.le_refl _) _
    have hs1 : w.heap.size < w1.heap.size := by rw [hw1]; simp
    have hT1 := Lib.hid (HT.out.later hb1)
    clear hw1 hP
    generalize min (m + 1) (s.size + 1) = capN at *
    by_cases hlong : m < (wdB b s).length
    · have hpl := hmany.out hlong
      have hf : Hid (rnsB m b s = false) := Lib.hid (by rw [hRB.out]; simp; intro h; omega)
      rw [hpl]
      have hgt : (m : Int) < ((m + 1 : Nat) : Int) := by omega
      clear hlong
      go_wp2
      go_ret2
      exact ⟨_, by rw [hf.out]; rfl, by rw [hRL.out false hf.out]; exact (Own.nil _ _).iv, hb1⟩
    · have hpw := hfew.out (by omega)
      have hlm : (wdB b s).length ≤ m := by omega
      rw [hpw] at hC
      rw [hpw]
      have HV : Hid (rnsV b s = rnsV b s ∧ (rnsV b s).length = (wdB b s).length) := Lib.hid ⟨rfl, rnsV_len b s⟩
      have HAT := Lib.hid (fun k x => rnsV_at (b := b) (s := s) (k := k) (x := x))
      have HSZ : Hid (∀ x ∈ wdB b s, x.size ≤ 1099511627776) := Lib.hid fun x hx => by have := wdB_size hx; omega
      have HG : Hid (∀ k (x : ByteArray), (wdB b s)[k]? = some x → rnO x.data.toList = none → rnsB m b s = false) := Lib.hid fun k x hx h => by
        have hg : rnsG b s = false := by
          unfold rnsG
          rw [List.all_eq_false]
          exact ⟨x, List.mem_of_getElem? hx, by rw [h]; simp⟩
        rw [hRB.out, hg]; simp
      have HY : Hid ((∀ k (x : ByteArray), (wdB b s)[k]? = some x → (rnO x.data.toList).isSome = true) → rnsB m b s = true) := Lib.hid fun h => by
        have hg : rnsG b s = true := by
          unfold rnsG
          rw [List.all_eq_true]
          intro x hx
          obtain ⟨i, hi', rfl⟩ := List.getElem_of_mem hx
          exact h i _ (List.getElem?_eq_getElem hi')
        rw [hRB.out, hg]; simp [hlm]
      obtain ⟨n, hn⟩ : ∃ n, n = (wdB b s).length := ⟨_, rfl⟩
      rw [← hn] at hlm ⊢
      have HN := Lib.hid hn
      clear hn hlong hpw
      have hngt : ¬ (m : Int) < (n : Int) := by omega
      go_wp2_with (refine wpList_make_full _ rfl _ _ 22 rfl w.heap.size 3 i0 (.int .i64 0) 1 Tryd.underlying22 hi hz0 hz1 .i64 .i64 _ _ n rfl rfl rfl rfl (by rw [hz2]; omega) (by unfold maxLen; omega) (Nat.le_of_lt hs1) ?_; intro w2 hown1 hgrow1)
      have hvl : (rnsV b s).length = n := by rw [HN.out]; exact HV.out.2
      have ho0 : Own w2 w.heap.size (.slice (some ⟨w1.heap.size, 0, none⟩) n n) ((rnsV b s).take 0 ++ List.replicate (n - 0) 0) := by
        unfold Own
        rw [copy_len (rnsV b s) n 0 hvl (Nat.zero_le _)]
        have e : (madeCells (Value.int IntKind.i64 0).cells (n * 1)).toList = ((rnsV b s).take 0 ++ List.replicate (n - 0) 0).map (Value.int .i64) := by
          rw [Nat.mul_one]
          have := toList_madeCells_one (.int .i64 0) n
          simpa [Value.cells] using this
        rw [← e]; exact hown1
      have hb2 : Below w.heap.size w w2 := hb1.grown hgrow1 (Nat.le_of_lt hs1) (fun k h => by cases h)
      have hb12 : Below w1.heap.size w1 w2 := (Below.refl _ _).grown hgrow1 (Nat.le_refl _) (fun k h => by cases h)
      have HVL := Lib.hid hvl
      clear hown1 hgrow1 hvl
      go_loopw [30] (fun i wr => ∃ k : Nat, k ≤ n ∧ i = .int .i64 k ∧ Own wr w.heap.size (.slice (some ⟨w1.heap.size, 0, none⟩) n n) ((rnsV b s).take k ++ List.replicate (n - k) 0) ∧ Below w.heap.size w wr ∧ Below w1.heap.size w1 wr ∧ Hid (∀ j (x : ByteArray), j < k → (wdB b s)[j]? = some x → (rnO x.data.toList).isSome = true)) (fun i wr => n - (intOf i).toNat)
      case atStart => exact ⟨0, Nat.zero_le _, rfl, ho0, hb2, hb12, Lib.hid fun j x hj => by omega⟩
      case round =>
        obtain ⟨k, hk, rfl, hown, hbl, hbl1, hall⟩ := hrel
        have hsz := hbl.size
        by_cases hlt : k < n
        · obtain ⟨x, hx⟩ : ∃ x, (wdB b s)[k]? = some x := ⟨(wdB b s)[k]'(by rw [← HN.out]; exact hlt), List.getElem?_eq_getElem (by rw [← HN.out]; exact hlt)⟩
          have q : wr.cell? ⟨w.heap.size, k, none⟩ = some (.string x) := by
            rw [hbl1.cell (p := ⟨w.heap.size, k, none⟩) hs1]; exact hC.out k x hx
          have hTk := Lib.hid (HT.out.later hbl)
          have hxs := HSZ.out x (List.mem_of_getElem? hx)
          have hva := HAT.out k x hx
          cases ho : rnO x.data.toList with
          | none =>
            have hf := Lib.hid (HG.out k x hx ho)
            clear hva
            go_wp2_with fail
            refine (readNumber_any x _ hxs hTk.out).mono ?_
            rintro e w3 ⟨rfl, hb3⟩
            rw [ho]
            go_wp2
            go_ret2
            exact ⟨_, by rw [hf.out]; rfl, by rw [hRL.out false hf.out]; exact (Own.nil _ _).iv, hbl.trans (hb3.mono hsz)⟩
          | some y =>
            rw [ho] at hva
            have hya : (rnsV b s)[k]?.getD 0 = y := hva
            have hall' : Hid (∀ j (x : ByteArray), j < k + 1 → (wdB b s)[j]? = some x → (rnO x.data.toList).isSome = true) := Lib.hid fun j x' hj hx' => by
              by_cases e : j = k
              · subst e
                rw [hx] at hx'
                cases hx'
                rw [ho]; rfl
              · exact hall.out j x' (by omega) hx'
            clear hva
            go_wp2_with fail
            refine (readNumber_any x _ hxs hTk.out).mono ?_
            rintro e w3 ⟨rfl, hb3⟩
            rw [ho]
            have hown3 := hown.later hb3
            have hbl3 := hbl.trans (hb3.mono hsz)
            have hbl13 := hbl1.trans (hb3.mono hbl1.size)
            have hl0 := copy_len (rnsV b s) n k HVL.out hk
            have hown' : w3.ownsRow w.heap.size 3 1 (.slice (some ⟨w1.heap.size, 0, none⟩) n n) n (((rnsV b s).take k ++ List.replicate (n - k) 0).map (Value.int .i64)) := by
              unfold Own at hown3; rw [hl0] at hown3; exact hown3
            have hst := World.ownsRow.stored (g := w1.heap.size) (n := n) (cap := n) hown' k (.int .i64 y)
            have hfz : w3.frozen? ⟨w1.heap.size, k, none⟩ = false := World.ownsRow.frozenAt hown' k
            obtain ⟨u, hcell⟩ : ∃ u, w3.cell? ⟨w1.heap.size, k, none⟩ = some u := by
              rw [World.ownsRow.cellAt hown' k (by omega)]
              exact ⟨_, List.getElem?_eq_getElem (by simp only [List.length_map]; rw [hl0]; exact hlt)⟩
            have hcs := copy_step (rnsV b s) n k HVL.out hlt
            rw [hya] at hcs
            rw [hcs] at hst
            have HST := Lib.hid hst
            have HL := Lib.hid (copy_len (rnsV b s) n (k + 1) HVL.out (by omega))
            have hg1 := HST.out.2
            clear hst hl0 hown hown3 hown' hcs hya
            go_wp2
            go_roundw
            case rel => exact ⟨k + 1, by omega, by go_num, by unfold Own; rw [HL.out]; exact HST.out.1, hbl3.grown hg1 (by have := hbl3.size; omega) (fun j hj => by cases hj; exact Nat.le_of_lt hs1), hbl13.grown hg1 hbl13.size (fun j hj => by cases hj; exact Nat.le_refl _), hall'⟩
            case measure => simp [intOf]; omega
        · obtain rfl : k = n := by omega
          have hf := Lib.hid (HY.out fun j x hx => hall.out j x (by have := (List.getElem?_eq_some_iff.1 hx).1; have := HN.out; omega) hx)
          have hlist : Hid ((rnsV b s).take k ++ List.replicate (k - k) 0 = rnsV b s) := Lib.hid (by rw [← HVL.out]; simp)
          rw [hlist.out] at hown
          go_wp2
          go_ret2
          exact ⟨_, by rw [hf.out]; rfl, by rw [hRL.out true hf.out]; exact hown.iv, hbl⟩
end Go.Proofs.YtkmdionldaejjaaDoor
