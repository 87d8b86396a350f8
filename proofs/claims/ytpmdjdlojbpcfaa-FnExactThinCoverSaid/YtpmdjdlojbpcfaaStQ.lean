/- Chapter 8: thin covers of the program: a range over slices.Backward. -/
import Derived.Test.YtpmdjdlojbpcfaaStP
import Derived.Stop.RegionWithIn
namespace Go.Proofs.Ytpmdjdlojbpcfaa
open Go.RowKit Go.Shelf Go.Proofs
set_option linter.unusedSimpArgs false
set_option linter.unusedVariables false
attribute [local go_sem] Oper.semAt_some

theorem back_stops (F : Fence) (n : Nat) (hF : F.fn 91) (hro : F.round = none) (hn : 1 ≤ n) (bs N p : Nat) (a : Option Addr) (zs : List Int) (w w0 : World) (hr : Rd w (.slice a N p) zs) (hN : N = zs.length) (hsm : N ≤ 20) (hb : Below w.heap.size w w0) (hbs : bs < w0.heap.size) (hc : w0.cell? ⟨bs, 0, none⟩ = some (.slice a N p)) :
    SeqStopsK F n Try.prog 91 #[.pointer (some ⟨bs, 0, none⟩)] (encZ zs) (KpI w.heap.size bs) (fun ys => ys = downs N N) (fun _ => True) N w0 := fun l J Jx W hW _ _ hY h0 =>
  back1_in F n hF hro hn l bs N p a zs w hr hN hsm J Jx (fun pre x W h1 h2 _ => hY pre x W h1 h2) W (hb.trans (hW.mono hb.size)) ((hW.cell (p := ⟨bs, 0, none⟩) hbs).trans hc) h0

theorem keepsB {W W' : World} (hb : Below W.heap.size W W') : KeepsOthers W W' :=
  ⟨hb.size, fun k o h _ => (hb.block k (Array.getElem?_eq_some_iff.1 h).1).trans h⟩
theorem rd_one (W : World) (y : Int) (t : TypeId) : Rd (W.alloc (.cells #[.int .i64 y] t)).drew (.slice (some ⟨W.heap.size, 0, none⟩) 1 1) [y] :=
  .inr ⟨W.heap.size, 0, 1, rfl, by simp, by simp [maxLen], by intro i hi; obtain rfl : i = 0 := by simpa using hi
                                                              simp [go_sem]⟩
/-- A set without one number. -/
def clr (s : Nat) (z : Int) : Nat := s &&& (18446744073709551615 - setN [z])
theorem clr_le (s : Nat) (z : Int) : clr s z ≤ s := Nat.and_le_left
def kpStep (L : List (List Int)) (n : Nat) (zs : List Int) (s x : Nat) : Nat := if covB L n (nums (clr s (zs[x]?.getD 0)) L.length) 1 then clr s (zs[x]?.getD 0) else s
def kpF (L : List (List Int)) (n : Nat) (zs : List Int) (pre : List Nat) : Nat := pre.foldl (kpStep L n zs) (setN zs)
theorem kpF_snoc (L : List (List Int)) (n : Nat) (zs : List Int) (pre : List Nat) (x : Nat) : kpF L n zs (pre ++ [x]) = kpStep L n zs (kpF L n zs pre) x := by simp [kpF]
theorem kpStep_le (L : List (List Int)) (n : Nat) (zs : List Int) (s x : Nat) : kpStep L n zs s x ≤ s := by
  unfold kpStep; split
  · exact clr_le _ _
  · exact Nat.le_refl _
theorem kpF_le (L : List (List Int)) (n : Nat) (zs : List Int) (pre : List Nat) : kpF L n zs pre ≤ setN zs := by
  unfold kpF
  generalize setN zs = s
  induction pre generalizing s with
  | nil => exact Nat.le_refl _
  | cons x pre ih => exact Nat.le_trans (ih _) (kpStep_le _ _ _ _ _)
theorem kpF_downs {L : List (List Int)} {n : Nat} {zs : List Int} (hm : L.length ≤ 12) (h : Ris zs 0 L.length) : ∀ k, k ≤ zs.length → kpF L n zs (downs zs.length k) = setN (thT L n zs k) := by
  intro k
  induction k with
  | zero => intro _; rfl
  | succ k ih =>
    intro hk
    have hI := thT_ok (L := L) (n := n) h k (by omega)
    obtain ⟨h1, h2⟩ := hI.at_ (by omega)
    rw [downs_succ, kpF_snoc, ih (by omega)]
    show _ = setN (thStep L n (thT L n zs k) (zs.length - 1 - k))
    generalize thT L n zs k = o at hI h1 h2
    have hz := h.get (zs.length - 1 - k) (by omega)
    obtain ⟨z, hze⟩ : ∃ z : Nat, zs[zs.length - 1 - k]?.getD 0 = (z : Int) := ⟨(zs[zs.length - 1 - k]?.getD 0).toNat, by omega⟩
    have hs := lessAt_set hI.ris hm h1 (z := z) (by rw [h2, hze])
    unfold kpStep thStep clr
    rw [hze, hs, nums_setN (lessAt_ris _ hI.ris)]
    split <;> rfl

/-- Between two rounds: the outlook, what is kept. -/
structure TcI (w2 W : World) (P1 : Nat) (a : Option Addr) (m c k : Nat) : Prop where
  bel : Below w2.heap.size w2 W
  box : Var2 W w2.heap.size (.int .u64 P1) (.slice a m c)
  cell : W.cell? ⟨w2.heap.size + 1, 0, none⟩ = some (.int .u64 k)
  fz : W.frozen? ⟨w2.heap.size + 1, 0, none⟩ = false
  sz : w2.heap.size + 2 ≤ W.heap.size
theorem TcI.hi {w2 W W' : World} {P1 m c k : Nat} {a : Option Addr} (h : TcI w2 W P1 a m c k) (hb : Below (w2.heap.size + 2) W W') : TcI w2 W' P1 a m c k :=
  ⟨h.bel.trans (hb.mono (by omega)), h.box.below hb (by omega), by rw [hb.cell (p := ⟨w2.heap.size + 1, 0, none⟩) (by show w2.heap.size + 1 < w2.heap.size + 2; omega)]; exact h.cell, by rw [hb.frozen (p := ⟨w2.heap.size + 1, 0, none⟩) (by show w2.heap.size + 1 < w2.heap.size + 2; omega)]; exact h.fz, Nat.le_trans h.sz hb.size⟩
theorem TcI.next {w2 W W' : World} {P1 m c k : Nat} {a : Option Addr} (h : TcI w2 W P1 a m c k) (hb : Below W.heap.size W W') : TcI w2 W' P1 a m c k := h.hi (hb.mono h.sz)
theorem TcI.put {w2 W : World} {P1 m c k : Nat} {a : Option Addr} (h : TcI w2 W P1 a m c k) (x : Nat) : TcI w2 (W.setCell ⟨w2.heap.size + 1, 0, none⟩ (.int .u64 x)) P1 a m c x :=
  ⟨h.bel.setCell (by show w2.heap.size ≤ w2.heap.size + 1; omega) _, h.box.set (by omega), setd_same h.cell, (World.frozen?_setCell _ _ _ _).trans h.fz, by simpa [World.setCell] using h.sz⟩
theorem TcI.own {w2 : World} {P1 m c : Nat} {a : Option Addr} {B : Nat} {f : List Nat → Nat} (hB : w2.heap.size + 2 ≤ B) : OwnFrom B (fun pre W => TcI w2 W P1 a m c (f pre)) := by
  rintro pre W W' row h hg hrow
  exact h.hi ((Below.refl (w2.heap.size + 2) W).grown hg h.sz (fun k e => by have := (hrow k e).1; omega))
set_option maxRecDepth 100000 in
set_option maxHeartbeats 4000000 in
theorem implThinCover_any (v u : Value) (L : List (List Int)) (n : Int) (zs : List Int) (w : World) (hr : RdJ w v L) (hu : Rd w u zs) :
    Calls Try.prog 24 #[v, .int .i64 n, u] w (TcPost L n zs w) := by
  have C0 := Lib.hid (implAreSites_any v L n w hr)
  have HR := Lib.hid hr
  have HU := Lib.hid hu
  have hm := hr.max
  cases hs : stB L n with
  | false =>
    have hf : Hid (tcA L n zs = false) := Lib.hid (by simp [tcA, ask_no1 hs])
    rw [hs] at C0
    clear hs hr hu
    go_enter Try.func24, Try.ntmps24
    go_wp2_with fail
    refine C0.out.mono ?_
    rintro e w1 ⟨rfl, hb1⟩
    go_wp2
    go_ret2
    exact TcPost.no hf.out hb1
  | true =>
    rw [hs] at C0
    have hch : chB L zs = risB zs 0 ((L.length : Int) - 1) := rfl
    have C1 := fun W (h : Rd W u zs) => Lib.hid (below_any u zs L.length W h)
    obtain ⟨a, cap, rfl, -⟩ := hr.len
    obtain ⟨b, cb, rfl⟩ := hu.len
    cases hc : chB L zs with
    | false =>
      have hf : Hid (tcA L n zs = false) := Lib.hid (by simp [tcA, ask_no2 hc])
      rw [← hch, hc] at C1
      clear hs hch hc hr hu
      go_enter Try.func24, Try.ntmps24
      go_wp2_with fail
      refine C0.out.mono ?_
      rintro e w1 ⟨rfl, hb1⟩
      go_wp2_with fail
      refine (C1 _ (HU.out.later hb1)).out.mono ?_
      rintro e w' ⟨rfl, rfl⟩
      go_wp2
      go_ret2
      exact TcPost.no hf.out hb1
    | true =>
      rw [← hch, hc] at C1
      have hask := ask_yes hs hc
      obtain ⟨⟨ok, hne⟩, hz⟩ := askB_iff.1 hask
      obtain ⟨N, hN⟩ : ∃ N, n.toNat = N := ⟨_, rfl⟩
      rw [hN] at ok hne
      subst hne
      have hm2 := ok.m2
      have hn2 := ok.n2
      have hzl := hz.len (by omega)
      have OK := Lib.hid ok
      have HZ := Lib.hid (ris16 ok hz)
      have hs16 : setN zs < 65536 := setN_lt16 HZ.out
      have HN := Lib.hid (nums_setN hz)
      have hta : tcA L (N : Int) zs = covB L N zs 1 := by simp [tcA, hask]
      have CV := Lib.hid (fun (u : Value) (s : Nat) (W : World) (hs : s < 65536) (h : RdV W u L) => covered1_any u L N s W ok hs h)
      have CO := Lib.hid (fun W (hW : Below w.heap.size w W) => outlookOf_any _ L N W ok (HR.out.below hW (Nat.le_refl _)))
      have KD := Lib.hid (kpF_downs (n := N) hm2 hz zs.length (Nat.le_refl _))
      have HRT := Lib.hid (thT_ok (L := L) (n := N) hz zs.length (Nat.le_refl _)).ris
      have HX : Hid (∀ x, ∃ z : Nat, zs[x]?.getD 0 = (z : Int) ∧ z < 16) := Lib.hid fun x => by
        by_cases hx : x < zs.length
        · have := hz.get x hx; exact ⟨(zs[x]?.getD 0).toNat, by omega, by omega⟩
        · exact ⟨0, by rw [List.getElem?_eq_none (by omega)]; rfl, by decide⟩
      clear hs hch hc ok hz hN hask hr hu
      obtain ⟨m, hme⟩ : ∃ m, m = L.length := ⟨_, rfl⟩
      obtain ⟨z, hze⟩ : ∃ z, z = zs.length := ⟨_, rfl⟩
      rw [← hme] at hm2 hzl C0 C1 HN CO HR HRT CV hm ⊢
      rw [← hze] at hzl C1 HU KD HRT ⊢
      have HM := Lib.hid hme
      have HZE := Lib.hid hze
      clear hme hze
      cases hcv : covB L N zs 1 with
      | false =>
        have hf : Hid (tcA L (N : Int) zs = false) := Lib.hid (by rw [hta, hcv])
        clear hta HRT KD
        go_enter Try.func24, Try.ntmps24
        go_wp2_with fail
        refine C0.out.mono ?_
        rintro e w1 ⟨rfl, hb1⟩
        go_wp2_with fail
        refine (C1 _ (HU.out.later hb1)).out.mono ?_
        rintro e w' ⟨rfl, rfl⟩
        go_wp2_with fail
        refine (CO.out _ hb1).mono ?_
        rintro e w2 ⟨uv, rfl, hv, hb2⟩
        have hB2 := hb1.trans (hb2.mono hb1.size)
        obtain ⟨au, cu, rfl⟩ := hv.len
        rw [← HM.out] at hv ⊢
        go_wp2_with fail
        refine (setOf_any _ zs _ HZ.out (HU.out.later hB2)).mono ?_
        rintro e w' ⟨rfl, rfl⟩
        have al := ((Below.refl w2.heap.size w2).alloc (Nat.le_refl _) (.cells #[.int .u64 ((2 ^ N - 1 : Nat) : Int), .slice au m cu] 65)).alloc (by simp) (.cells #[.int .u64 (setN zs)] 62)
        have C5 := Lib.hid (CV.out _ (setN zs) _ hs16 (hv.later al))
        rw [HN.out, hcv] at C5
        have hB3 := hB2.trans (al.mono hB2.size)
        clear hcv
        generalize 2 ^ N - 1 = P1 at *
        generalize setN zs = S at *
        go_wp2_with fail
        refine C5.out.mono ?_
        rintro e w3 ⟨rfl, hb3⟩
        have hB4 := hB3.trans (hb3.mono hB3.size)
        go_wp2
        go_ret2
        exact TcPost.no hf.out hB4
      | true =>
        have hf : Hid (tcA L (N : Int) zs = true) := Lib.hid (by rw [hta, hcv])
        clear hta
        refine (callsIn_wide (n := 6)).1 ?_
        refine callsIn_of_wp_marks Try.func24 rfl trivial ?_ rfl
        simp only [Try.ntmps24, List.size_toArray, List.length_cons, List.length_nil, Nat.reduceAdd, Nat.reduceSub, Array.replicate_succ, Array.replicate_zero, List.push_toArray, List.append_toArray, List.nil_append, List.cons_append]
        gi_wp2_with fail
        refine ⟨trivial, ?_⟩
        refine (callsIn_wide.2 C0.out).mono ?_
        rintro e w1 ⟨rfl, hb1⟩
        gi_wp2_with fail
        refine ⟨trivial, ?_⟩
        refine (callsIn_wide.2 (C1 _ (HU.out.later hb1)).out).mono ?_
        rintro e w' ⟨rfl, rfl⟩
        gi_wp2_with fail
        refine ⟨trivial, ?_⟩
        refine (callsIn_wide.2 (CO.out _ hb1)).mono ?_
        rintro e w2 ⟨uv, rfl, hv, hb2⟩
        have hB2 := hb1.trans (hb2.mono hb1.size)
        obtain ⟨au, cu, rfl⟩ := hv.len
        rw [← HM.out] at hv ⊢
        gi_wp2_with fail
        refine ⟨trivial, ?_⟩
        refine (callsIn_wide.2 (setOf_any _ zs _ HZ.out (HU.out.later hB2))).mono ?_
        rintro e w' ⟨rfl, rfl⟩
        have al := ((Below.refl w2.heap.size w2).alloc (Nat.le_refl _) (.cells #[.int .u64 ((2 ^ N - 1 : Nat) : Int), .slice au m cu] 65)).alloc (by simp) (.cells #[.int .u64 (setN zs)] 62)
        have C5 := Lib.hid (CV.out _ (setN zs) _ hs16 (hv.later al))
        rw [HN.out, hcv] at C5
        have hB3 := hB2.trans (al.mono hB2.size)
        have HV := Lib.hid hv
        have HKS := Lib.hid (show kpF L N zs [] = setN zs from rfl)
        have HKL := Lib.hid (fun pre => Nat.lt_of_le_of_lt (kpF_le L N zs pre) hs16)
        clear hcv hv hb2
        generalize 2 ^ N - 1 = P1 at *
        generalize setN zs = S at HKS al C5 hB3 ⊢
        have T0 : TcI w2 ((w2.alloc (.cells #[.int .u64 P1, .slice au m cu] 65)).alloc (.cells #[.int .u64 S] 62)) P1 au m cu S :=
          ⟨al, (Var2.new w2 _ _ _).next ((Below.refl _ _).alloc (Nat.le_refl _) _), by simp [go_sem], by simp [go_sem], by simp⟩
        gi_wp2_with fail
        refine ⟨trivial, ?_⟩
        refine (callsIn_wide.2 C5.out).mono ?_
        rintro e w3 ⟨rfl, hb3⟩
        have T3 := T0.next hb3
        have hB4 := hB3.trans (hb3.mono hB3.size)
        gi_wp2_with fail
        refine ⟨trivial, ?_⟩
        refine (back_in Fence.wide 5 trivial rfl b z cb _).mono ?_
        rintro e w4 ⟨rfl, rfl⟩
        have T4 := T3.next ((Below.refl _ _).alloc (Nat.le_refl _) (.cells #[.slice b z cb] 26))
        have hB5 := hB4.alloc hB4.size (.cells #[.slice b z cb] 26)
        have hcB := new_cell w3 (.slice b z cb) 26
        have hzW : (w3.alloc (.cells #[.slice b z cb] 26)).heap.size = w3.heap.size + 1 := by simp
        have hsz3 := T3.sz
        gi_wp2_with fail
        try simp only [World.size_alloc]
        generalize w3.alloc (.cells #[.slice b z cb] 26) = W0 at *
        refine wpIn_rangeFunc_ownG_of_H rfl (by decide) (gf := 91) (lb := #[.pointer (some ⟨w3.heap.size, 0, none⟩)]) rfl trivial (enters_of Try.func91 (by kernel_rfl) rfl)
          (back_stops Fence.wide 5 trivial rfl (by decide) w3.heap.size z cb b zs w W0 HU.out HZE.out (by omega) hB5 (by omega) hcB) KpI.t (KpI.b (by have := hB4.size; omega) (by omega)) (Below.refl _ _) (fun _ => rfl)
          (fun pre W => TcI w2 W P1 au m cu (kpF L N zs pre)) (fun _ _ _ => False) (TcI.own (by omega)) (fun _ _ _ _ _ hs _ _ => hs) (by rw [HKS.out]; exact T4)
          (fun x => { tmps := #[.slice a m cap, .int .i64 N, .slice b z cb, undef, undef, undef, .slice none 0 0, .bool false, .pointer (some ⟨w2.heap.size, 0, none⟩), .pointer (some ⟨w2.heap.size + 1, 0, none⟩), undef, .int .i64 (zs[x]?.getD 0), undef, .slice a m cap, .int .i64 N, .bool true, .bool false, .bool false, .slice b z cb, .slice a m cap, .int .i64 m, .bool true, .bool false, .bool false, .slice a m cap, .int .i64 N, .agg #[.int .u64 P1, .slice au m cu], .slice b z cb, .int .u64 S, .agg #[.int .u64 P1, .slice au m cu], .int .u64 S, .bool true, .bool false, .slice b z cb, .func (.func 91) #[] #[.pointer (some ⟨w3.heap.size, 0, none⟩)], .int .i64 x, .int .i64 (zs[x]?.getD 0), undef, undef, undef, undef, undef, undef, undef, undef, undef, undef, undef], defers := [] })
          ?assign ?body ?done ?stop (fun W => ⟨Below.refl _ _, fun _ h => h⟩)
        case assign =>
          intro l x W K hK
          obtain ⟨y, hy, -⟩ := HX.out x
          simp only [encZ, hy] at hK ⊢
          gi_wp2
          exact hK
        case body =>
          intro l pre x W hT hlt
          obtain ⟨y, hy, hy16⟩ := HX.out x
          have hk16 := HKL.out pre
          have hstep := kpF_snoc L N zs pre x
          unfold kpStep at hstep
          rw [hy] at hstep
          rw [hy]
          have hc16 : clr (kpF L N zs pre) y < 65536 := Nat.lt_of_le_of_lt (clr_le _ _) hk16
          have hy1 : setN [(y : Int)] < 65536 := setN_lt16 (by intro q hq; simp at hq; subst hq; omega)
          have e1 : bits BinOp.andNot IntKind.u64 (kpF L N zs pre : Int) (setN [(y : Int)] : Int) = (clr (kpF L N zs pre) y : Int) := u64_andNot_nat _ _ (by omega) (by omega)
          have CS := fun W' (v : Value) (h : Rd W' v [(y : Int)]) => Lib.hid (setOf_any v [(y : Int)] W' (by intro q hq; simp at hq; subst hq; omega) h)
          have C6 := Lib.hid (fun (u : Value) (W' : World) (h : RdV W' u L) => CV.out u (clr (kpF L N zs pre) y) W' hc16 h)
          rw [← HM.out] at hstep
          have HST := Lib.hid hstep
          clear hstep
          generalize kpF L N zs pre = k at *
          generalize clr k y = k2 at *
          generalize setN [(y : Int)] = sy at *
          have c0 := hT.cell
          have f0 := hT.fz
          have al := ((Below.refl W.heap.size W).alloc (Nat.le_refl _) (.cells #[.int .i64 y] 3)).drew
          have al0 := (Below.refl W.heap.size W).alloc (Nat.le_refl _) (.cells #[.int .i64 y] 3)
          have TA := hT.next al0
          have q0 := TA.cell
          have q1 := TA.fz
          have y0 := TA.box.c0
          have y1 := TA.box.c1
          have hw2 := hT.bel.size
          have hwW := Nat.le_trans hB2.size hw2
          have hvA := HV.out.later (hT.bel.trans (al.mono hw2))
          have hsz := hT.sz
          cases hcv : covB L N (nums k2 m) 1
          all_goals
            rw [hcv] at C6 HST
            gi_wp2
            gi_region_with ((refine ⟨trivial, ?_⟩; refine ((callsIn_wide.2 (CS _ _ (rd_one _ _ _)).out).inRound l).mono ?_; rintro e w' ⟨rfl, rfl⟩))
            all_goals (try simp only [e1])
            all_goals (gi_wp2_with fail)
            all_goals refine ⟨trivial, ?_⟩
            all_goals refine ((callsIn_wide.2 (C6.out _ _ hvA)).inRound l).mono ?_
            all_goals rintro e w5 ⟨rfl, hb5⟩
            all_goals have B5 := al.trans (hb5.mono al.size)
            all_goals have T5 := hT.next B5
            all_goals have c5 := T5.cell
            all_goals have f5 := T5.fz
            all_goals gi_wp2
          all_goals first
            | (have HS : kpF L N zs (pre ++ [x]) = k := HST.out
               exact ⟨(keepsB B5).from _, ⟨B5.mono hwW, fun v hv => bcell B5 hv⟩, (by rw [HS]; exact T5 : TcI w2 w5 P1 au m cu (kpF L N zs (pre ++ [x])))⟩)
            | (have HS : kpF L N zs (pre ++ [x]) = k2 := HST.out
               exact ⟨((keepsB B5).trans (KeepsOthers.setCell _ _ _)).from _, ⟨(B5.mono hwW).setCell (p := ⟨w2.heap.size + 1, 0, none⟩) (by have := hB2.size; show w.heap.size ≤ w2.heap.size + 1; omega) _, fun v hv => (setd_far (.inr (by omega))).trans (bcell B5 hv)⟩, (by rw [HS]; exact T5.put k2 : TcI w2 (w5.setCell ⟨w2.heap.size + 1, 0, none⟩ (.int .u64 k2)) P1 au m cu (kpF L N zs (pre ++ [x])))⟩)
        case done =>
          rintro D ys W hD rfl hT hK
          have hk16 := HKL.out (downs z z)
          have hn16 : nums (setN (thT L N zs z)) 16 = thT L N zs z := nums_setN (HRT.out.wide (by omega) (by omega))
          rw [KD.out] at hT hk16
          have NU := Lib.hid (numbers_any (setN (thT L N zs z)) W hk16)
          rw [hn16] at NU
          clear hn16
          generalize setN (thT L N zs z) = s at *
          have c0 := hT.cell
          have f0 := hT.fz
          gi_wp2_with fail
          refine ⟨trivial, ?_⟩
          refine (callsIn_wide.2 NU.out).mono ?_
          rintro e w5 ⟨v5, rfl, ho5, hb5⟩
          gi_wp2
          have hDW : D < W.heap.size := (Array.getElem?_eq_some_iff.1 hK).1
          have hK5 : w5.heap[D]? = some (.deferred (some [])) := (hb5.block D hDW).trans hK
          refine ⟨by simp, .inl ⟨_, _, rfl, run_takeDeferred hK5, ?_⟩⟩
          have hBW := hB2.trans (hT.bel.mono hB2.size)
          have hsB := hB2.size
          have bK := belowK_b (n₀ := w.heap.size) (w := W0) (by omega) w5 D _ (.deferred none) (by omega) hK5 rfl rfl
          have o6 := ho5.kept (grownBy_putObj' w5 D (.deferred none)) (.inr fun e => by have := (ho5.lt _ e).1; omega)
          refine ⟨.tuple #[v5, .bool true], by simp [results, Try.results24, go_sem, *], ?_⟩
          refine TcPost.yes hf.out ?_ ((hBW.trans (hb5.mono hBW.size)).trans bK)
          rw [← HZE.out]
          exact o6.base hBW.size
        case stop =>
          rintro D c pre W _ _ h _
          exact h.elim
end Go.Proofs.Ytpmdjdlojbpcfaa
