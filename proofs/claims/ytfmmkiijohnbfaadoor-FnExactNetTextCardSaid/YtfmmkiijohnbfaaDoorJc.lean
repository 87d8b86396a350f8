/- strings.Join with a separator of one byte. -/
import Derived.Test.YtfmmkiijohnbfaaDoorJb
namespace Go.Proofs.YtfmmkiijohnbfaaDoor
open Go.RowKit
set_option linter.unusedSimpArgs false
set_option linter.unusedVariables false

/-- Strings, one after the other. -/
def catL (xs : List ByteArray) : List UInt8 := xs.flatMap (·.data.toList)
theorem catL_take (xs : List ByteArray) (k : Nat) (x : ByteArray) (h : xs[k]? = some x) : catL (xs.take (k + 1)) = catL (xs.take k) ++ x.data.toList := by
  obtain ⟨hk, rfl⟩ := List.getElem?_eq_some_iff.1 h
  rw [List.take_succ_eq_append_getElem hk]; simp only [catL, List.flatMap_append, List.flatMap_cons, List.flatMap_nil, List.append_nil]
theorem catL_le (xs : List ByteArray) (k : Nat) : (catL (xs.take k)).length ≤ (catL xs).length := by
  have : catL xs = catL (xs.take k) ++ catL (xs.drop k) := by simp only [catL, ← List.flatMap_append, List.take_append_drop]
  rw [this, List.length_append]; exact Nat.le_add_right _ _
theorem size_data (x : ByteArray) : x.data.toList.length = x.size := by simp
def noBytes : ByteArray := ⟨#[]⟩


/-- The first k strings with the byte between them. -/
def jnT (b : UInt8) (xs : List ByteArray) : Nat → List UInt8
  | 0 => []
  | k + 1 => jnT b xs k ++ ((if k = 0 then [] else [b]) ++ (xs[k]?.getD ByteArray.empty).data.toList)
theorem jnT_one {b : UInt8} {xs : List ByteArray} {x : ByteArray} (h : xs[0]? = some x) : jnT b xs 1 = x.data.toList := by simp [jnT, h]
theorem jnT_succ {b : UInt8} {xs : List ByteArray} {k : Nat} {x : ByteArray} (h : xs[k + 1]? = some x) : jnT b xs (k + 2) = jnT b xs (k + 1) ++ [b] ++ x.data.toList := by
  have : jnT b xs (k + 2) = jnT b xs (k + 1) ++ ((if k + 1 = 0 then [] else [b]) ++ (xs[k + 1]?.getD ByteArray.empty).data.toList) := rfl
  rw [this, h, if_neg (by omega)]
  simp
theorem jnT_len (b : UInt8) (xs : List ByteArray) (k : Nat) (hk : k ≤ xs.length) : (jnT b xs k).length = (catL (xs.take k)).length + (k - 1) := by
  induction k with
  | zero => simp [jnT, catL]
  | succ k ih =>
    have h := ih (by omega)
    obtain ⟨x, hx⟩ : ∃ x, xs[k]? = some x := ⟨xs[k]'(by omega), List.getElem?_eq_getElem (by omega)⟩
    rw [catL_take xs k x hx]
    simp only [jnT, List.length_append, hx, Option.getD_some]
    rw [h]
    split <;> simp <;> omega

set_option maxHeartbeats 4000000 in
set_option maxRecDepth 100000 in
theorem JoinS_any (b : UInt8) (bk c : Nat) (xs : List ByteArray) (w : World) (hcells : ∀ (j : Nat) x, xs[j]? = some x → w.cell? ⟨bk, j, none⟩ = some (.string x)) (hbk : bk < w.heap.size) (hN : xs.length ≤ 1048576) (hcap : xs.length ≤ c) (hlen : (catL xs).length + xs.length ≤ 1048576) :
    Calls Tryd.prog 46 #[.slice (some ⟨bk, 0, none⟩) xs.length c, .string ⟨#[b]⟩] w fun e w' => e = .returned (.string ⟨(jnT b xs xs.length).toArray⟩) ∧ Below w.heap.size w w' := by
  have HC := Lib.hid hcells
  have HLEN := Lib.hid hlen
  obtain ⟨n, hn⟩ : ∃ n, n = xs.length := ⟨_, rfl⟩
  have HN := Lib.hid hn
  rw [← hn] at hN hcap ⊢
  clear hcells hlen
  by_cases h0 : n = 0
  · have HE : Hid (jnT b xs 0 = []) := Lib.hid rfl
    clear hn
    subst h0
    go_enter Tryd.func46, Tryd.ntmps46
    go_wp2
    go_ret
    exact ⟨by rw [HE.out]; rfl, Below.refl _ _⟩
  · obtain ⟨x0, hx0⟩ : ∃ x0, xs[0]? = some x0 := ⟨xs[0]'(by omega), List.getElem?_eq_getElem (by omega)⟩
    have c0 : w.cell? ⟨bk, 0, none⟩ = some (.string x0) := HC.out 0 x0 hx0
    have HS1 : Hid (catL (xs.take 1) = x0.data.toList) := Lib.hid (by rw [catL_take xs 0 x0 hx0]; simp [catL])
    by_cases h1 : n = 1
    · have HE : Hid (jnT b xs 1 = x0.data.toList) := Lib.hid (jnT_one hx0)
      clear hn hx0
      subst h1
      go_enter Tryd.func46, Tryd.ntmps46
      go_wp2
      go_ret
      exact ⟨by rw [HE.out]; exact congrArg (fun b => Ending.returned (.string b)) (Lib.mk_data x0).symm, Below.refl _ _⟩
    · have h2 : 1 < n := by omega
      have HJ1 : Hid (jnT b xs 1 = x0.data.toList) := Lib.hid (jnT_one hx0)
      obtain ⟨n1, hn1⟩ : ∃ n1, n = n1 + 1 := ⟨n - 1, by omega⟩
      have HN1 := Lib.hid hn1
      have hnI : (n : Int) - 1 = (n1 : Int) := by omega
      have hnN : n - 1 = n1 := by omega
      have hn1p : 1 ≤ n1 := by omega
      have hn1b : n1 ≤ 1048576 := by omega
      have hsz1 : (⟨#[b]⟩ : ByteArray).size = 1 := rfl
      have hdv : ¬ 9223372036854775807 / (n1 : Int) ≤ 1 := by
        have h1 : (2 : Int) ≤ 9223372036854775807 / (n1 : Int) := Int.le_ediv_of_mul_le (by omega) (by omega)
        omega
      have hdt : (9223372036854775807 : Int).tdiv (n1 : Int) = 9223372036854775807 / (n1 : Int) := Int.tdiv_eq_ediv_of_nonneg (by omega)
      have hq1 : 9223372036854775807 / (n1 : Int) ≤ 9223372036854775807 := Int.ediv_le_self _ (by omega)
      obtain ⟨Q, hQ⟩ : ∃ Q, Q = 9223372036854775807 / (n1 : Int) := ⟨_, rfl⟩
      rw [← hQ] at hdv hdt hq1
      have hq0 : 0 ≤ Q := by omega
      clear hn1 hQ
      have hne0 : ((n : Int) == 0) = false := beq_eq_false_iff_ne.2 (by omega)
      have hne1 : ((n : Int) == 1) = false := beq_eq_false_iff_ne.2 (by omega)
      clear hn hx0 h0 h1
      go_enter Tryd.func46, Tryd.ntmps46
      go_wp2_with fail
      go_loopw [5, 41] (fun sv i wr => ∃ (k z : Nat), k ≤ n ∧ i = .int .i64 k ∧ sv = .int .i64 (z : Int) ∧ Hid (z = (catL (xs.take k)).length + n1) ∧ wr = w) (fun _ i _ => n - (intOf i).toNat)
      case atStart => exact ⟨0, n1, Nat.zero_le _, rfl, rfl, Lib.hid (by simp [catL]), rfl⟩
      case round =>
        obtain ⟨k, z, hk, rfl, rfl, hz, hwr⟩ := hrel
        have hw2 := hwr.symm
        clear hwr
        subst hw2
        have hzl : z ≤ 1048576 := by have := catL_le xs k; have := HLEN.out; have := HN.out; have := hz.out; omega
        by_cases hlt : k < n
        · obtain ⟨x, hx⟩ : ∃ x, xs[k]? = some x := ⟨xs[k]'(by have := HN.out; omega), List.getElem?_eq_getElem (by have := HN.out; omega)⟩
          have hc := HC.out k x hx
          have hst := catL_take xs k x hx
          have hxl : z + x.size ≤ 1048576 := by
            have h1 := catL_le xs (k + 1)
            rw [hst, List.length_append, size_data] at h1
            have := hz.out; have := HLEN.out; have := HN.out; omega
          have HZ1 : Hid (z + x.size = (catL (xs.take (k + 1))).length + n1) := Lib.hid (by rw [hst, List.length_append, size_data]; have := hz.out; omega)
          have hkI : (k : Int) < (n : Int) := by omega
          clear hst hx
          obtain ⟨xn, hxn⟩ : ∃ xn, xn = x.size := ⟨_, rfl⟩
          have HXN := Lib.hid hxn
          go_wp2
          go_roundw
          case rel => exact ⟨k + 1, z + x.size, by omega, by go_num, by simp, HZ1, by first | rfl | trivial⟩
          case measure => simp [intOf]; omega
        · obtain rfl : n = k := by omega
          clear hk
          go_wp2_with fail
          refine (Grow_fresh w.heap.size w.heap.size z _ (Nat.le_refl _) (heap_alloc_new w _) (by simp) (by omega)).mono ?_
          rintro e w1 ⟨rfl, hB1, hb1⟩
          have hb1' : Below w.heap.size w w1 := ((Below.refl w.heap.size w).alloc (Nat.le_refl _) _).trans hb1
          have d0 : w1.cell? ⟨bk, 0, none⟩ = some (.string x0) := by rw [hb1'.cell (p := ⟨bk, 0, none⟩) hbk]; exact c0
          have hBld : Bld w1 w.heap.size w.heap.size [] := .inr (Lib.BuilderAtF.of hB1)
          have hx0l : x0.size ≤ 1048576 := by
            have h1 := catL_le xs 1
            rw [HS1.out, size_data] at h1
            have := HLEN.out; omega
          have hs1 := hb1'.size
          clear hb1 hB1
          go_wp2_with fail
          refine (WriteString_any w.heap.size w.heap.size [] x0 w1 hBld (by simp; omega) hs1).mono ?_
          rintro e w2 ⟨rfl, hBld2, hb2⟩
          have HB2 : Bld w2 w.heap.size w.heap.size (Lib.byteCells (jnT b xs 1)) := by rw [HJ1.out]; exact hBld2
          have hb2' := hb1'.trans hb2
          clear hBld hBld2 hb2
          have hsl : (1 : Int) ≤ (n : Int) := by omega
          have hsl2 : 1 ≤ n := by omega
          go_wp2_with fail
          go_loopw [65] (fun i wq => ∃ k : Nat, k ≤ n1 ∧ i = .int .i64 k ∧ Bld wq w.heap.size w.heap.size (Lib.byteCells (jnT b xs (k + 1))) ∧ Below w.heap.size w wq) (fun i _ => n1 - (intOf i).toNat)
          case atStart => exact ⟨0, Nat.zero_le _, rfl, HB2, hb2'⟩
          case round =>
            obtain ⟨k, hk, rfl, hbld, hbl⟩ := hrel
            have hszl := hbl.size
            by_cases hlt : k < n1
            · obtain ⟨x, hx⟩ : ∃ x, xs[k + 1]? = some x := ⟨xs[k + 1]'(by have := HN.out; have := HN1.out; omega), List.getElem?_eq_getElem (by have := HN.out; have := HN1.out; omega)⟩
              have hc : wr.cell? ⟨bk, 1 + k, none⟩ = some (.string x) := by
                rw [hbl.cell (p := ⟨bk, 1 + k, none⟩) hbk, Nat.add_comm]
                exact HC.out (k + 1) x hx
              have hst := jnT_succ (b := b) hx
              have hxl : (Lib.byteCells (jnT b xs (k + 1))).length + 1 + x.size ≤ 1048576 := by
                have h1 := jnT_len b xs (k + 2) (by have := HN.out; have := HN1.out; omega)
                have h2 := catL_le xs (k + 2)
                have h3 := HLEN.out
                have h4 := HN.out
                have h5 := HN1.out
                rw [hst, List.length_append, List.length_append, List.length_singleton, size_data] at h1
                rw [Lib.byteCells_length]
                omega
              have HNX : Hid (Lib.byteCells (jnT b xs (k + 1)) ++ Lib.strCells ⟨#[b]⟩ ++ Lib.strCells x = Lib.byteCells (jnT b xs (k + 1 + 1))) := Lib.hid (by rw [hst, Lib.byteCells_append, Lib.byteCells_append]; rfl)
              have hkI : (k : Int) < (n1 : Int) := by omega
              clear hst hx
              generalize Lib.byteCells (jnT b xs (k + 1)) = bs at *
              go_wp2_with fail
              refine (WriteString_any w.heap.size w.heap.size bs ⟨#[b]⟩ _ hbld (by omega) hszl).mono ?_
              rintro e w3 ⟨rfl, hbld3, hb3⟩
              have hbl3 := hbl.trans hb3
              have hszl3 := hbl3.size
              have hcx : w3.cell? ⟨bk, 1 + k, none⟩ = some (.string x) := by
                rw [hb3.cell (p := ⟨bk, 1 + k, none⟩) hbk]; exact hc
              have hbld3' := hbld3
              have hl3 : (bs ++ Lib.strCells ⟨#[b]⟩).length = bs.length + 1 := by simp [Lib.strCells]
              clear hbld hbld3 hb3 hbl hc
              go_wp2_with fail
              refine (WriteString_any w.heap.size w.heap.size _ x w3 hbld3' (by rw [hl3]; omega) hszl3).mono ?_
              rintro e w4 ⟨rfl, hbld4, hb4⟩
              rw [HNX.out] at hbld4
              have hbl4 := hbl3.trans hb4
              go_wp2
              go_roundw
              case rel => exact ⟨k + 1, by omega, by go_num, hbld4, hbl4⟩
              case measure => simp [intOf]; omega
            · obtain rfl : k = n1 := by omega
              have HE : Hid (k + 1 = n) := Lib.hid (by have := HN1.out; omega)
              go_wp2_with (go_at_call 25; refine (Tryd.Builder_String_any_k w.heap.size w.heap.size (jnT b xs (k + 1)) _ hbld hszl).mono ?_; rintro e w5 ⟨rfl, _, hb5, _⟩)
              go_ret
              exact ⟨by first | rfl | (rw [← HE.out]; rfl), hbl.trans hb5⟩
end Go.Proofs.YtfmmkiijohnbfaaDoor
