/- Drawing the arguments of FnCertificates from bytes: loose contracts. -/
import Derived.Test.YtpmdjdlojbpcfaaDt1
namespace Go.Proofs.Ytpmdjdlojbpcfaa
open Go.RowKit Go.Sort
set_option linter.unusedSimpArgs false
set_option linter.unusedVariables false

theorem Kp.blw {p n : Nat} {W W' : World} (h : Kp p (p + 1) W W') (hn : n ≤ p) (hp : p < W.heap.size) : Below n W W' := (h.below (by omega)).mono hn
theorem RdU.any {w : World} {C C' : Nat} {v : Value} {n : Nat} (h : RdU w C v n) (hC : C ≤ C') : RdU w C' v n := ⟨h.1, h.2.imp id fun ⟨g, off, cap, hv, hg, hc⟩ => ⟨g, off, cap, hv, by omega, hc⟩⟩
/-- The cursor as it is made. -/
theorem Cur.new {w : World} {a : Option Addr} {n cap : Nat} (h : RdU w w.heap.size (.slice a n cap) n) (t : TypeId) : Cur (w.alloc (.cells #[.slice a n cap, .int .i64 0, .int .u64 0] t)) w.heap.size 0 :=
  ⟨by simp, a, n, cap, 0, 0, by simp [go_sem], h.below ((Below.refl _ _).alloc (Nat.le_refl _) _), by simp [go_sem], Nat.le_refl _, by simp [go_sem], by omega, by omega, by simp [go_sem], by simp [go_sem]⟩

/-- A draw as it begins: the cursor is block w.heap.size. -/
theorem DB.new {w : World} {a : Option Addr} {n cap : Nat} (h : RdU w w.heap.size (.slice a n cap) n) (t : TypeId) : Cur (w.alloc (.cells #[.slice a n cap, .int .i64 0, .int .u64 0] t)) w.heap.size 0 ∧ Below w.heap.size w (w.alloc (.cells #[.slice a n cap, .int .i64 0, .int .u64 0] t)) ∧ w.heap.size < (w.alloc (.cells #[.slice a n cap, .int .i64 0, .int .u64 0] t)).heap.size :=
  ⟨Cur.new h t, (Below.refl _ _).alloc (Nat.le_refl _) _, by simp⟩
set_option maxRecDepth 100000 in
set_option maxHeartbeats 1000000 in
theorem drawSites (a : Option Addr) (n cap : Nat) (w : World) (hr : RdU w w.heap.size (.slice a n cap) n) :
    Calls Try.prog 64 #[.slice a n cap] w fun e w' => ∃ (v : Value) (L : List (List Int)) (k : Nat), e = .returned (.tuple #[v, .int .i64 k]) ∧ RdJ w' v L ∧ L.length ≤ 13 ∧ k ≤ 17 ∧ Below w.heap.size w w' := by
  obtain ⟨hc, hb, hz⟩ := DB.new hr 57
  clear hr
  go_enter Try.func64, Try.ntmps64
  go_wp2_with fail
  generalize w.alloc (.cells #[.slice a n cap, .int .i64 0, .int .u64 0] 57) = w0 at *
  refine (sites_draw w.heap.size 0 w0 hc (by omega)).mono ?_
  rintro e w1 ⟨v, L, us, k, rfl, ho, hl, hk, hC1, hk1⟩
  obtain ⟨av, cv, rfl⟩ := ho.j.len
  have hB := hb.trans (hk1.blw (Nat.le_refl _) hz)
  have HJ := Lib.hid ho.j.rd
  obtain ⟨m, hm⟩ : ∃ m, m = L.length := ⟨_, rfl⟩
  rw [← hm] at hl HJ ⊢
  have HM := Lib.hid hm
  clear ho hm
  go_wp2
  go_ret2
  exact ⟨_, L, k, rfl, HJ.out, by rw [← HM.out]; exact hl, hk, hB⟩
set_option maxRecDepth 100000 in
set_option maxHeartbeats 1000000 in
theorem drawMost (a : Option Addr) (n cap : Nat) (w : World) (hr : RdU w w.heap.size (.slice a n cap) n) :
    Calls Try.prog 34 #[.slice a n cap] w fun e w' => ∃ (v : Value) (L : List (List Int)) (k : Nat), e = .returned (.tuple #[v, .int .i64 k]) ∧ RdJ w' v L ∧ L.length ≤ 13 ∧ k ≤ 17 ∧ Below w.heap.size w w' := by
  have HR := Lib.hid hr
  clear hr
  go_enter Try.func34, Try.ntmps34
  go_wp2_with fail
  refine (drawSites a n cap w HR.out).mono ?_
  rintro e w1 ⟨v, L, k, rfl, HJ, hl, hk, hB⟩
  obtain ⟨av, cv, rfl, -⟩ := HJ.len
  replace HJ := Lib.hid HJ
  obtain ⟨m, hm⟩ : ∃ m, m = L.length := ⟨_, rfl⟩
  rw [← hm] at hl HJ ⊢
  have HM := Lib.hid hm
  clear hm
  go_wp2
  go_ret2
  exact ⟨_, L, k, rfl, HJ.out, by rw [← HM.out]; exact hl, hk, hB⟩
set_option maxRecDepth 100000 in
set_option maxHeartbeats 1000000 in
theorem drawCount (a : Option Addr) (n cap : Nat) (w : World) (hr : RdU w w.heap.size (.slice a n cap) n) :
    Calls Try.prog 40 #[.slice a n cap] w fun e w' => ∃ (v : Value) (L : List (List Int)) (k : Nat) (z : Int), e = .returned (.tuple #[v, .int .i64 k, .int .i64 z]) ∧ RdJ w' v L ∧ L.length ≤ 13 ∧ k ≤ 17 ∧ (-1 ≤ z ∧ z ≤ 13) ∧ Below w.heap.size w w' := by
  obtain ⟨hc, hb, hz⟩ := DB.new hr 57
  clear hr
  go_enter Try.func40, Try.ntmps40
  go_wp2_with fail
  generalize w.alloc (.cells #[.slice a n cap, .int .i64 0, .int .u64 0] 57) = w0 at *
  refine (sites_draw w.heap.size 0 w0 hc (by omega)).mono ?_
  rintro e w1 ⟨v, L, us, k, rfl, ho, hl, hk, hC1, hk1⟩
  obtain ⟨av, cv, rfl⟩ := ho.j.len
  have hB := hb.trans (hk1.blw (Nat.le_refl _) hz)
  have hz1 : w.heap.size < w1.heap.size := Nat.lt_of_lt_of_le hz hk1.size
  have HO := Lib.hid ho
  obtain ⟨m, hm⟩ : ∃ m, m = L.length := ⟨_, rfl⟩
  rw [← hm] at hl HO ⊢
  have HM := Lib.hid hm
  clear ho hm
  go_wp2_with fail
  refine (among_list w.heap.size _ [13, -1] w1 hC1 (by omega) (by simp) (by simp) 3).mono ?_
  rintro e w2 ⟨z, hm2, rfl, hC2, hk2⟩
  simp only [List.mem_cons, List.not_mem_nil, or_false] at hm2
  have hz2 : w.heap.size < w2.heap.size := Nat.lt_of_lt_of_le hz1 hk2.size
  go_wp2_with fail
  refine (among_list w.heap.size _ [0, 1, 2, 3, 4, 12, z] w2 hC2 (by omega) (by simp) (by simp) 3).mono ?_
  rintro e w3 ⟨y, hm3, rfl, hC3, hk3⟩
  simp only [List.mem_cons, List.not_mem_nil, or_false] at hm3
  have hy : -1 ≤ y ∧ y ≤ 13 := by omega
  clear hm2 hm3
  go_wp2
  go_ret3
  exact ⟨_, L, k, y, rfl, ((HO.out.kept hk2 (.inr hz)).kept hk3 (.inr hz)).j.rd, by rw [← HM.out]; exact hl, hk, hy, (hB.trans (hk2.blw (Nat.le_refl _) hz1)).trans (hk3.blw (Nat.le_refl _) hz2)⟩
set_option maxRecDepth 100000 in
set_option maxHeartbeats 4000000 in
theorem drawApart (a : Option Addr) (n cap : Nat) (w : World) (hr : RdU w w.heap.size (.slice a n cap) n) :
    Calls Try.prog 37 #[.slice a n cap] w fun e w' => ∃ (v : Value) (L : List (List Int)) (k : Nat) (u : Value) (zs : List Int), e = .returned (.tuple #[v, .int .i64 k, u]) ∧ RdJ w' v L ∧ L.length ≤ 13 ∧ k ≤ 17 ∧ Rd w' u zs ∧ zs.length ≤ 20 ∧ Below w.heap.size w w' := by
  obtain ⟨hc, hb, hz⟩ := DB.new hr 57
  clear hr
  go_enter Try.func37, Try.ntmps37
  go_wp2_with fail
  generalize w.alloc (.cells #[.slice a n cap, .int .i64 0, .int .u64 0] 57) = w0 at *
  refine (sites_draw w.heap.size 0 w0 hc (by omega)).mono ?_
  rintro e w1 ⟨v, L, us, k, rfl, ho, hl, hk, hC1, hk1⟩
  obtain ⟨av, cv, rfl⟩ := ho.j.len
  have HO := Lib.hid ho
  obtain ⟨m, hm⟩ : ∃ m, m = L.length := ⟨_, rfl⟩
  rw [← hm] at hl HO ⊢
  have HM := Lib.hid hm
  clear ho hm hc
  go_wp2_with fail
  refine (one_any w.heap.size (0 + 2000) 3 w1 hC1 (by omega) (by omega) (by omega)).mono ?_
  rintro e w2 ⟨b, rfl, hC2, hk2⟩
  have HS : Hid (SJ w0 w2 w.heap.size (2002 + 2 * 0) w2.heap.size (.slice av m cv) L us) := Lib.hid ⟨⟨hC2.more (by omega), hk1.trans hk2, hz⟩, (HO.out.kept hk2 (.inr hz)).wide2 hk2.size, Nat.le_trans hk1.size hk2.size, Nat.le_refl _⟩
  clear hC1 hk1 hC2 hk2 HO
  cases b with
  | false =>
      go_wp2_with fail
      go_loopw [8, 9] (fun s8 s9 wr => ∃ (i : Nat) (zs : List Int), s9 = .int .i64 i ∧ i ≤ k ∧ zs.length ≤ i ∧ SJ w0 wr w.heap.size (2002 + 2 * i) w2.heap.size (.slice av m cv) L us ∧ Own wr w2.heap.size s8 zs) (fun s8 s9 wr => k - (intOf s9).toNat)
      case atStart => exact ⟨0, [], rfl, by omega, by simp, HS.out, Own.nil _ _⟩
      case round =>
        obtain ⟨i, zs, rfl, hi, hz, S, ho⟩ := hrel
        have hsz2 := S.hi
        have hpp := S.db.pw
        have hlo := S.lo
        by_cases hlt2 : i < k
        · go_wp2_with fail
          refine (one_any w.heap.size (2002 + 2 * i) 4 _ S.db.cur (by omega) (by omega) (by omega)).mono ?_
          rintro e wq ⟨b, rfl, hCq, hkq⟩
          have S3 := S.go hCq hkq
          have ho3 : Own wq w2.heap.size _ zs := row_at ho fun j hj => hkq.block j (ho.lt j hj).2 (.inr (by have := (ho.lt j hj).1; omega))
          clear hCq hkq S ho
          have hsq := S3.hi
          cases b with
          | true =>
            obtain ⟨au, cu, rfl⟩ := ho3.rd.len
            have al := (Below.refl w2.heap.size wq).alloc hsq (.cells #[.int .i64 i] 3)
            have S4 := S3.up al
            have hs4 := S4.hi
            have ho4 := ho3.alloc (.cells #[.int .i64 i] 3)
            clear al
            go_wp2_with (at_builtin; refine append_int rfl _ _ rfl w2.heap.size _ zs (i : Int) wq.heap.size rfl rfl ho4 (new_cell _ _ _) (by omega) hs4 ?_; intro v' w' o' g')
            have hb' := (Below.refl w2.heap.size _).grown g' hs4 (fun j hj => (ho4.lt j hj).1)
            go_roundw
            case rel => exact ⟨i + 1, zs ++ [(i : Int)], by go_num, by omega, by simp; omega, (S4.up hb').more (by omega), o'⟩
            case measure => simp only [intOf]; omega
          | false =>
            go_wp2_with fail
            go_roundw
            case rel => exact ⟨i + 1, zs, by go_num, by omega, by omega, S3.more (by omega), ho3⟩
            case measure => simp only [intOf]; omega
        · go_wp2_with fail
          refine (one_any w.heap.size (2002 + 2 * i) 20 _ S.db.cur (by omega) (by omega) (by omega)).mono ?_
          rintro e wq ⟨b, rfl, hCq, hkq⟩
          have S3 := S.go hCq hkq
          have ho3 : Own wq w2.heap.size _ zs := row_at ho fun j hj => hkq.block j (ho.lt j hj).2 (.inr (by have := (ho.lt j hj).1; omega))
          clear hCq hkq S ho
          have hsq := S3.hi
          obtain ⟨au, cu, rfl⟩ := ho3.rd.len
          cases b with
          | false =>
            go_wp2_with fail
            go_ret3
            exact ⟨_, L, k, _, zs, rfl, S3.own.j.rd, by rw [← HM.out]; exact hl, hk, ho3.rd, by omega, hb.trans (S3.db.kp.blw (Nat.le_refl _) S3.db.pw)⟩
          | true =>
            have HZ2 := Lib.hid (show zs.length ≤ 17 by omega)
            obtain ⟨q, hq⟩ : ∃ q, q = zs.length := ⟨_, rfl⟩
            rw [← hq] at ho3 ⊢
            have HQ := Lib.hid hq
            clear hq hz
            go_wp2_with fail
            refine (among_list w.heap.size _ [-1, (k : Int)] wq S3.db.cur (by omega) (by simp) (by simp) 3).mono ?_
            rintro e wu ⟨z, -, rfl, hCu, hku⟩
            have S4 := S3.go hCu hku
            have ho4 : Own wu w2.heap.size _ zs := row_at ho3 fun j hj => hku.block j (ho3.lt j hj).2 (.inr (by have := (ho3.lt j hj).1; omega))
            have hsu := S4.hi
            have al := (Below.refl w2.heap.size wu).alloc hsu (.cells #[.int .i64 z] 3)
            have S5 := S4.up al
            have hs5 := S5.hi
            have ho5 := ho4.alloc (.cells #[.int .i64 z] 3)
            have HZ3 := Lib.hid (show zs.length ≤ 1099511627776 by have := HZ2.out; omega)
            clear al S3 ho3 S4 ho4
            go_wp2_with (at_builtin; refine append_int rfl _ _ rfl w2.heap.size _ zs z wu.heap.size rfl rfl ho5 (new_cell _ _ _) HZ3.out hs5 ?_; intro v' w' o' g')
            have hb' := (Below.refl w2.heap.size _).grown g' hs5 (fun j hj => (ho5.lt j hj).1)
            have S6 := S5.up hb'
            obtain ⟨a6, c6, hv6⟩ := o'.rd.len
            obtain ⟨q6, hq6⟩ : ∃ q6, q6 = (zs ++ [z]).length := ⟨_, rfl⟩
            rw [← hq6] at hv6
            subst hv6
            have HQ6 := Lib.hid hq6
            clear hq6
            go_wp2_with fail
            go_ret3
            exact ⟨_, L, k, _, zs ++ [z], rfl, S6.own.j.rd, by rw [← HM.out]; exact hl, hk, o'.rd, by have := HZ2.out; simp; omega, hb.trans (S6.db.kp.blw (Nat.le_refl _) S6.db.pw)⟩
  | true =>
    have CG := Lib.hid (stGood_any _ L k w2 HS.out.own.j.rd)
    cases hg : stB L (k : Int) with
    | false =>
      rw [hg] at CG
      go_wp2_with fail
      refine CG.out.mono ?_
      rintro e w' ⟨rfl, rfl⟩
      clear hg CG
      go_wp2_with fail
      go_loopw [8, 9] (fun s8 s9 wr => ∃ (i : Nat) (zs : List Int), s9 = .int .i64 i ∧ i ≤ k ∧ zs.length ≤ i ∧ SJ w0 wr w.heap.size (2002 + 2 * i) w2.heap.size (.slice av m cv) L us ∧ Own wr w2.heap.size s8 zs) (fun s8 s9 wr => k - (intOf s9).toNat)
      case atStart => exact ⟨0, [], rfl, by omega, by simp, HS.out, Own.nil _ _⟩
      case round =>
        obtain ⟨i, zs, rfl, hi, hz, S, ho⟩ := hrel
        have hsz2 := S.hi
        have hpp := S.db.pw
        have hlo := S.lo
        by_cases hlt2 : i < k
        · go_wp2_with fail
          refine (one_any w.heap.size (2002 + 2 * i) 4 _ S.db.cur (by omega) (by omega) (by omega)).mono ?_
          rintro e wq ⟨b, rfl, hCq, hkq⟩
          have S3 := S.go hCq hkq
          have ho3 : Own wq w2.heap.size _ zs := row_at ho fun j hj => hkq.block j (ho.lt j hj).2 (.inr (by have := (ho.lt j hj).1; omega))
          clear hCq hkq S ho
          have hsq := S3.hi
          cases b with
          | true =>
            obtain ⟨au, cu, rfl⟩ := ho3.rd.len
            have al := (Below.refl w2.heap.size wq).alloc hsq (.cells #[.int .i64 i] 3)
            have S4 := S3.up al
            have hs4 := S4.hi
            have ho4 := ho3.alloc (.cells #[.int .i64 i] 3)
            clear al
            go_wp2_with (at_builtin; refine append_int rfl _ _ rfl w2.heap.size _ zs (i : Int) wq.heap.size rfl rfl ho4 (new_cell _ _ _) (by omega) hs4 ?_; intro v' w' o' g')
            have hb' := (Below.refl w2.heap.size _).grown g' hs4 (fun j hj => (ho4.lt j hj).1)
            go_roundw
            case rel => exact ⟨i + 1, zs ++ [(i : Int)], by go_num, by omega, by simp; omega, (S4.up hb').more (by omega), o'⟩
            case measure => simp only [intOf]; omega
          | false =>
            go_wp2_with fail
            go_roundw
            case rel => exact ⟨i + 1, zs, by go_num, by omega, by omega, S3.more (by omega), ho3⟩
            case measure => simp only [intOf]; omega
        · go_wp2_with fail
          refine (one_any w.heap.size (2002 + 2 * i) 20 _ S.db.cur (by omega) (by omega) (by omega)).mono ?_
          rintro e wq ⟨b, rfl, hCq, hkq⟩
          have S3 := S.go hCq hkq
          have ho3 : Own wq w2.heap.size _ zs := row_at ho fun j hj => hkq.block j (ho.lt j hj).2 (.inr (by have := (ho.lt j hj).1; omega))
          clear hCq hkq S ho
          have hsq := S3.hi
          obtain ⟨au, cu, rfl⟩ := ho3.rd.len
          cases b with
          | false =>
            go_wp2_with fail
            go_ret3
            exact ⟨_, L, k, _, zs, rfl, S3.own.j.rd, by rw [← HM.out]; exact hl, hk, ho3.rd, by omega, hb.trans (S3.db.kp.blw (Nat.le_refl _) S3.db.pw)⟩
          | true =>
            have HZ2 := Lib.hid (show zs.length ≤ 17 by omega)
            obtain ⟨q, hq⟩ : ∃ q, q = zs.length := ⟨_, rfl⟩
            rw [← hq] at ho3 ⊢
            have HQ := Lib.hid hq
            clear hq hz
            go_wp2_with fail
            refine (among_list w.heap.size _ [-1, (k : Int)] wq S3.db.cur (by omega) (by simp) (by simp) 3).mono ?_
            rintro e wu ⟨z, -, rfl, hCu, hku⟩
            have S4 := S3.go hCu hku
            have ho4 : Own wu w2.heap.size _ zs := row_at ho3 fun j hj => hku.block j (ho3.lt j hj).2 (.inr (by have := (ho3.lt j hj).1; omega))
            have hsu := S4.hi
            have al := (Below.refl w2.heap.size wu).alloc hsu (.cells #[.int .i64 z] 3)
            have S5 := S4.up al
            have hs5 := S5.hi
            have ho5 := ho4.alloc (.cells #[.int .i64 z] 3)
            have HZ3 := Lib.hid (show zs.length ≤ 1099511627776 by have := HZ2.out; omega)
            clear al S3 ho3 S4 ho4
            go_wp2_with (at_builtin; refine append_int rfl _ _ rfl w2.heap.size _ zs z wu.heap.size rfl rfl ho5 (new_cell _ _ _) HZ3.out hs5 ?_; intro v' w' o' g')
            have hb' := (Below.refl w2.heap.size _).grown g' hs5 (fun j hj => (ho5.lt j hj).1)
            have S6 := S5.up hb'
            obtain ⟨a6, c6, hv6⟩ := o'.rd.len
            obtain ⟨q6, hq6⟩ : ∃ q6, q6 = (zs ++ [z]).length := ⟨_, rfl⟩
            rw [← hq6] at hv6
            subst hv6
            have HQ6 := Lib.hid hq6
            clear hq6
            go_wp2_with fail
            go_ret3
            exact ⟨_, L, k, _, zs ++ [z], rfl, S6.own.j.rd, by rw [← HM.out]; exact hl, hk, o'.rd, by have := HZ2.out; simp; omega, hb.trans (S6.db.kp.blw (Nat.le_refl _) S6.db.pw)⟩
    | true =>
      rw [hg] at CG
      have ok : StOk L k := by have := (stB_iff.1 hg).1; simpa using this
      have CM := Lib.hid (stMost_any _ L k ok k (.slice none 0 0) [] 0 w2 (by omega) (Nat.zero_le _) (Ris.nil _ _) (by simp [apB]) HS.out.own.j.rd ⟨rd_nil w2, none, 0, rfl, Nat.le_refl _⟩)
      clear hg ok
      go_wp2_with fail
      refine CG.out.mono ?_
      rintro e w' ⟨rfl, rfl⟩
      go_wp2_with fail
      refine CM.out.mono ?_
      rintro e w3 ⟨v', d, rfl, ⟨hd, -, -⟩, ho3, hb3⟩
      have hrd : Rd w3 v' d := by
        rcases ho3 with ⟨rfl, rfl⟩ | ho3
        · exact rd_nil _
        · rw [List.nil_append] at ho3; exact ho3.rd
      have hdl := hd.len (by omega)
      obtain ⟨a3, c3, rfl⟩ := hrd.len
      have HRD := Lib.hid hrd
      have HDL := Lib.hid (show d.length ≤ 20 by omega)
      obtain ⟨q, hq⟩ : ∃ q, q = d.length := ⟨_, rfl⟩
      rw [← hq] at HRD ⊢
      clear hq hdl hrd ho3 hd
      go_wp2_with fail
      go_ret3
      exact ⟨_, L, k, _, d, rfl, (HS.out.later hb3).own.j.rd, by rw [← HM.out]; exact hl, hk, HRD.out, HDL.out, hb.trans ((HS.out.later hb3).db.kp.blw (Nat.le_refl _) hz)⟩
end Go.Proofs.Ytpmdjdlojbpcfaa
