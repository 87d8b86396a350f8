/- Chapter 2: read in one way, by the specification: the rests. -/
import Derived.Test.YtpogpehbkgjiaaaRw5
import Derived.Deep.RegionHeld3
import Derived.StillTailTactics
namespace Go.Proofs.Ytpogpehbkgjiaaa
open Go.RowKit
set_option linter.unusedSimpArgs false
set_option linter.unusedVariables false

theorem RdC.drop2 {w : World} {g off n cap k : Nat} {zs : List Int} (h : RdC w (.slice (some ⟨g, off, none⟩) n cap) zs) (hk : k ≤ n) (hc : ¬ cap = k) : RdC w (.slice (some ⟨g, off + k, none⟩) (n - k) (cap - k)) (zs.drop k) := by
  by_cases e : k < n
  · exact h.drop k e
  · obtain rfl : k = n := by omega
    obtain ⟨h1, a', cap', hv, hc'⟩ := h
    simp only [Value.slice.injEq] at hv
    have hz : zs.drop k = [] := List.drop_of_length_le (by omega)
    rw [hz, Nat.sub_self]
    exact ⟨.inl ⟨rfl, _, _, rfl, fun h => by cases h⟩, _, _, rfl, Nat.zero_le _⟩
theorem RdC.cutP {w : World} {g off n cap k : Nat} {zs : List Int} (h : RdC w (.slice (some ⟨g, off, none⟩) n cap) zs) (hc : cap = k) : RdC w (.slice (some ⟨g, off, none⟩) (n - k) 0) (zs.drop k) := by
  obtain ⟨h1, a', cap', hv, hc'⟩ := h
  simp only [Value.slice.injEq] at hv
  have e : n - k = 0 := by omega
  have hz : zs.drop k = [] := List.drop_of_length_le (by omega)
  rw [hz, e]
  exact ⟨.inl ⟨rfl, _, _, rfl, fun h => by cases h⟩, _, _, rfl, Nat.zero_le _⟩
theorem RdC.cut {w : World} {g off n cap k : Nat} {zs : List Int} (h : RdC w (.slice (some ⟨g, off, none⟩) n cap) zs) (hk : k ≤ n) : RdC w (.slice (if cap = k then some ⟨g, off, none⟩ else some ⟨g, off + k, none⟩) (n - k) (cap - k)) (zs.drop k) := by
  by_cases hc : cap = k
  · rw [if_pos hc]
    obtain ⟨h1, a', cap', hv, hc'⟩ := h
    simp only [Value.slice.injEq] at hv
    have e : n - k = 0 := by omega
    have hz : zs.drop k = [] := List.drop_of_length_le (by omega)
    rw [hz, e]
    exact ⟨.inl ⟨rfl, _, _, rfl, fun h => by cases h⟩, _, _, rfl, Nat.zero_le _⟩
  · rw [if_neg hc]
    exact h.drop2 hk hc
theorem bkBegins_low (v1 v2 : Value) (xs ys : List Int) (b : Bool) (w : World) (hb : begsB xs ys = b) (h1 : RdC w v1 xs) (h2 : RdC w v2 ys) :
    Calls Try.prog 94 #[v1, v2] w fun e w' => e = .returned (.bool b) ∧ Below w.heap.size w w' := by
  refine (bkBegins_any v1 v2 xs ys w h1 h2).mono ?_
  rintro e w' ⟨rfl, n, rfl⟩
  exact ⟨by rw [hb], below_drewN (Below.refl _ _) n⟩
theorem cell_drewN' (w : World) (q : Nat) (p : Addr) : (w.drewN q).cell? p = w.cell? p := World.cell?_of_block (by simp)
theorem begsB_bk {ps : List Ph} {i j : Nat} (h : i ≠ j) : begsB (sg ps i) (sg ps j) = preB ps i j := (preB_other h).symm

set_option maxRecDepth 100000 in
set_option maxHeartbeats 8000000 in
theorem bkRests_any (v : Value) (ps : List Ph) (w : World) (hb : bookB ps = true) (hr : RdPs w v ps) :
    Calls Try.prog 77 #[.agg #[v]] w fun e w' => ∃ (a : Option Addr) (m c : Nat) (L : List (List Int)), e = .returned (.slice a m c) ∧ Rows true w w' w.heap.size (.slice a m c) L ∧ Hid (oneB ps = !(inL L [])) ∧ L.length ≤ 160 := by
  have hn40 := (bookB_len hb).2
  have HS3 : Hid (∀ i, i < ps.length → (sg ps i).length ≤ 3) := Lib.hid fun i hi => sigB_3 (goodAt_sig (bookB_at hb hi))
  obtain ⟨a, cap, rfl, -⟩ := hr.len
  obtain ⟨n, hn⟩ : ∃ n, n = ps.length := ⟨_, rfl⟩
  have HN := Lib.hid hn
  have HR := Lib.hid hr
  have HB := Lib.hid hb
  rw [← hn] at hn40 HR ⊢
  clear hn hr hb
  have hb0 := (Below.refl w.heap.size w).alloc (Nat.le_refl _) (.cells #[.slice a n cap] 31)
  have hk0 : (w.alloc (.cells #[.slice a n cap] 31)).heap[w.heap.size]? = some (.cells #[.slice a n cap] 31 (0, 0)) := heap_alloc_new w _
  have hx0 : (w.alloc (.cells #[.slice a n cap] 31)).cell? ⟨w.heap.size, 0, none⟩ = some (.slice a n cap) := by rw [cell_blk hk0]; rfl
  have hr0 : Rows true w (w.alloc (.cells #[.slice a n cap] 31)) w.heap.size (.slice none 0 0) [] := Rows.nil hb0 (Nat.le_refl _) (by simp)
  go_enter Try.func77, Try.ntmps77
  go_wp2
  generalize w.alloc (.cells #[.slice a n cap] 31) = W at *
  go_loopw [3, 14] (fun o s wr => ∃ (i : Nat) (L : List (List Int)) (a3 : Option Addr) (m3 c3 : Nat), i ≤ n ∧ s = .int .i64 i ∧ o = .slice a3 m3 c3 ∧ wr.heap[w.heap.size]? = some (.cells #[.slice a n cap] 31 (0, 0)) ∧ Rows true w wr w.heap.size (.slice a3 m3 c3) L ∧ Hid (Good ps L) ∧ Hid (Pairs ps L i 0)) (fun _ s wr => n - (intOf s).toNat)
  case atStart => exact ⟨0, [], none, 0, 0, Nat.zero_le _, rfl, rfl, hk0, hr0, Lib.hid (Good.nil ps), Lib.hid fun m j h1 h2 h3 h4 => by omega⟩
  case round =>
    clear hk0 hx0 hr0 hb0
    obtain ⟨i, L, a3, m3, c3, hi, rfl, rfl, hk1, hr1, hgd, hpr⟩ := hrel
    by_cases hlt : i < n
    · obtain ⟨g, off, ua, uc, rfl, hts, hd0, hd1, hru⟩ := HR.out.old HN.out i hlt hr1.below
      obtain ⟨li, hli⟩ : ∃ li, li = (phAt ps i).sig.length := ⟨_, rfl⟩
      have HLI := Lib.hid hli
      rw [← hli] at hd1 hru
      have HU := Lib.hid hru
      have hbx := (Below.refl wr.heap.size wr).alloc (Nat.le_refl _) (.cells #[.string (phAt ps i).txt, .slice ua li uc] 65)
      have hx1 : (wr.alloc (.cells #[.string (phAt ps i).txt, .slice ua li uc] 65)).heap[wr.heap.size]? = some (.cells #[.string (phAt ps i).txt, .slice ua li uc] 65 (0, 0)) := heap_alloc_new wr _
      have hk2 : (wr.alloc (.cells #[.string (phAt ps i).txt, .slice ua li uc] 65)).heap[w.heap.size]? = some (.cells #[.slice (some ⟨g, off, none⟩) n cap] 31 (0, 0)) := (Lib.alloc_old wr _ _ (lt_blk hk1)).trans hk1
      have hc2 : (wr.alloc (.cells #[.string (phAt ps i).txt, .slice ua li uc] 65)).cell? ⟨w.heap.size, 0, none⟩ = some (.slice (some ⟨g, off, none⟩) n cap) := by rw [cell_blk hk2]; rfl
      have hr2 := hr1.later hbx
      clear hru hli
      go_wp2
      generalize wr.alloc (.cells #[.string (phAt ps i).txt, .slice ua li uc] 65) = W2 at *
      generalize wr.heap.size = B2 at *
      clear hd0 hd1 hk1 hr1 hc2
      go_loopw [3, 22] (fun o s wr => ∃ (j : Nat) (L : List (List Int)) (a3 : Option Addr) (m3 c3 : Nat), j ≤ n ∧ s = .int .i64 j ∧ o = .slice a3 m3 c3 ∧ wr.heap[w.heap.size]? = some (.cells #[.slice (some ⟨g, off, none⟩) n cap] 31 (0, 0)) ∧ wr.heap[B2]? = some (.cells #[.string (phAt ps i).txt, .slice ua li uc] 65 (0, 0)) ∧ Rows true w wr w.heap.size (.slice a3 m3 c3) L ∧ Hid (Good ps L) ∧ Hid (Pairs ps L i j)) (fun _ s wr => n - (intOf s).toNat)
      case atStart => exact ⟨0, L, a3, m3, c3, Nat.zero_le _, rfl, rfl, hk2, hx1, hr2, hgd, hpr⟩
      case round =>
        clear hk2 hx1 hr2 hgd hpr
        obtain ⟨j, L, a3, m3, c3, hj, rfl, rfl, hk2, hx2, hr2, hgd, hpr⟩ := hrel
        by_cases hltj : j < n
        · obtain ⟨g', off', ua2, uc2, hge, hts2, hd0, hd1, hru2⟩ := HR.out.old HN.out j hltj hr2.below
          simp only [Option.some.injEq, Addr.mk.injEq, and_true] at hge
          obtain ⟨rfl, rfl⟩ := hge
          obtain ⟨lj, hlj⟩ : ∃ lj, lj = (phAt ps j).sig.length := ⟨_, rfl⟩
          have HLJ := Lib.hid hlj
          rw [← hlj] at hd1 hru2
          have HU2 := Lib.hid hru2
          have hby := (Below.refl wr.heap.size wr).alloc (Nat.le_refl _) (.cells #[.string (phAt ps j).txt, .slice ua2 lj uc2] 65)
          have y1 : ∀ q, ((wr.alloc (.cells #[.string (phAt ps j).txt, .slice ua2 lj uc2] 65)).drewN q).cell? ⟨wr.heap.size, 1, none⟩ = some (.slice ua2 lj uc2) := fun q => by
            rw [cell_drewN']; simp [go_sem]
          have x1 : ∀ q, ((wr.alloc (.cells #[.string (phAt ps j).txt, .slice ua2 lj uc2] 65)).drewN q).cell? ⟨B2, 1, none⟩ = some (.slice ua li uc) := fun q => by
            rw [cell_drewN', hby.cell (p := ⟨B2, 1, none⟩) (lt_blk hx2), cell_blk hx2]; rfl
          have x0 := x1 0
          have y0 := y1 0
          simp only [World.drewN_zero] at x0 y0
          have K3 : Hid ((wr.alloc (.cells #[.string (phAt ps j).txt, .slice ua2 lj uc2] 65)).heap[w.heap.size]? = some (.cells #[.slice (some ⟨g, off, none⟩) n cap] 31 (0, 0))) := Lib.hid ((Lib.alloc_old wr _ _ (lt_blk hk2)).trans hk2)
          have X3 : Hid ((wr.alloc (.cells #[.string (phAt ps j).txt, .slice ua2 lj uc2] 65)).heap[B2]? = some (.cells #[.string (phAt ps i).txt, .slice ua li uc] 65 (0, 0))) := Lib.hid ((Lib.alloc_old wr _ _ (lt_blk hx2)).trans hx2)
          have R3 := Lib.hid (hr2.later hby)
          clear hru2 hk2 hx2 hr2 hlj
          by_cases hij : i = j
          · subst hij
            have HPR : Hid (Pairs ps L i (i + 1)) := Lib.hid (hpr.out.step fun h => by rw [preB_self] at h; cases h)
            go_wp2
            go_roundw
            case rel => exact ⟨i + 1, L, a3, m3, c3, by omega, by go_num, rfl, K3.out, X3.out, R3.out, hgd, HPR⟩
            case measure => simp [intOf]; omega
          · have hnej : ((i : Int) != (j : Int)) = true := by rw [bne_iff_ne]; omega
            cases hpb : begsB (sg ps i) (sg ps j) with
            | false =>
              have HPR : Hid (Pairs ps L i (j + 1)) := Lib.hid (hpr.out.step fun h => by rw [← begsB_bk hij, hpb] at h; cases h)
              have HPB := Lib.hid hpb
              clear hij hpb
              go_wp2_with (go_at_call 94; refine (bkBegins_any _ _ (sg ps i) (sg ps j) _ (HU.out.later R3.out.below) (HU2.out.later R3.out.below)).mono ?_; rw [HPB.out]; rintro e w1 ⟨rfl, n1, rfl⟩)
              have hbd := below_drewN (Below.refl (wr.alloc (.cells #[.string (phAt ps j).txt, .slice ua2 lj uc2] 65)).heap.size (wr.alloc (.cells #[.string (phAt ps j).txt, .slice ua2 lj uc2] 65))) n1
              go_roundw
              case rel => exact ⟨j + 1, L, a3, m3, c3, by omega, by go_num, rfl, (hbd.block _ (lt_blk K3.out)).trans K3.out, (hbd.block _ (lt_blk X3.out)).trans X3.out, R3.out.later hbd, hgd, HPR⟩
              case measure => simp [intOf]; omega
            | true =>
              have hp : preB ps i j = true := by rw [← begsB_bk hij]; exact hpb
              have hpl : li < lj := by
                have h1 := begs_len hpb
                have h2 : (sg ps i).length = li := HLI.out.symm
                have h3 : (sg ps j).length = lj := HLJ.out.symm
                rcases Nat.lt_or_ge li lj with h | h
                · exact h
                · have e : sg ps i = sg ps j := begsB_eq hpb (by omega)
                  exact absurd (book_sigs HB.out (by rw [← HN.out]; exact hlt) (by rw [← HN.out]; exact hltj) e) hij
              obtain ⟨gy, oy, rfl⟩ := HU2.out.some_ (by omega)
              obtain ⟨-, z1, z2, hz, hlc⟩ := id HU2.out
              simp only [Value.slice.injEq] at hz
              have hlc' : lj ≤ uc2 := by rw [hz.2.2, hz.2.1]; exact hlc
              have hk1 : li ≤ lj := by omega
              have hk2 : li ≤ uc2 := by omega
              have hk3 : ¬ uc2 = li := by omega
              have hkI : (li : Int) ≤ (lj : Int) := by omega
              have HUS : Hid (RdC w (.slice (some ⟨gy, oy + li, none⟩) (lj - li) (uc2 - li)) ((sg ps j).drop li)) := Lib.hid (HU2.out.drop2 hk1 hk3)
              have HPR : Hid (Pairs ps (putL L ((sg ps j).drop li)) i (j + 1)) := Lib.hid ((hpr.out.more fun x hx => mem_putL.2 (.inl hx)).step fun _ => mem_putL.2 (.inr (by rw [HLI.out]; rfl)))
              have HGD : Hid (Good ps (putL L ((sg ps j).drop li))) := Lib.hid (by
                rw [HLI.out]
                exact hgd.out.put ((rch_closed ps).1 i j (by rw [← HN.out]; exact hlt) (by rw [← HN.out]; exact hltj) hp) (suf_pair (by rw [← HN.out]; exact hltj) hp))
              have HLL : Hid (L.length ≤ 1048000) := Lib.hid (by have h1 := hgd.out.len HS3.out; rw [← HN.out] at h1; omega)
              have HDL : Hid (((sg ps j).drop li).length ≤ 1048576) := Lib.hid (by rw [List.length_drop]; have := HS3.out j (by rw [← HN.out]; exact hltj); omega)
              have HPB := Lib.hid hpb
              clear hij hpb hp hz hlc hlc'
              go_wp2_with (go_at_call 94; refine (bkBegins_any _ _ (sg ps i) (sg ps j) _ (HU.out.later R3.out.below) (HU2.out.later R3.out.below)).mono ?_; rw [HPB.out]; rintro e w1 ⟨rfl, n1, rfl⟩)
              have hbd := below_drewN (Below.refl (wr.alloc (.cells #[.string (phAt ps j).txt, .slice (some ⟨gy, oy, none⟩) lj uc2] 65)).heap.size (wr.alloc (.cells #[.string (phAt ps j).txt, .slice (some ⟨gy, oy, none⟩) lj uc2] 65))) n1
              have K4 := Lib.hid ((hbd.block _ (lt_blk K3.out)).trans K3.out)
              have X4 := Lib.hid ((hbd.block _ (lt_blk X3.out)).trans X3.out)
              have R4 := Lib.hid (R3.out.later hbd)
              refine (bkPut_any w w.heap.size _ _ L ((sg ps j).drop li) _ HLL.out HDL.out R4.out (HUS.out.later R4.out.below)).mono ?_
              rintro e w5 ⟨a5, m5, c5, rfl, hr5, hs5, hfr5⟩
              have hk5 := (hfr5 _ (lt_blk K4.out) (R4.out.apart (by decide) K4.out)).trans K4.out
              have hx5 := (hfr5 B2 (lt_blk X4.out) (R4.out.apart (by decide) X4.out)).trans X4.out
              clear hfr5
              go_wp2
              go_roundw
              case rel => exact ⟨j + 1, _, a5, m5, c5, by omega, by go_num, rfl, hk5, hx5, hr5, HGD, HPR⟩
              case measure => simp [intOf]; omega
        · obtain rfl : n = j := by omega
          have HPR : Hid (Pairs ps L (i + 1) 0) := Lib.hid (Pairs.next (by have := hpr.out; rw [HN.out] at this; exact this))
          go_wp2
          go_roundw
          case rel => exact ⟨i + 1, L, a3, m3, c3, by omega, by go_num, rfl, hk2, hr2, hgd, HPR⟩
          case measure => simp [intOf]; omega
    · obtain rfl : n = i := by omega
      have HPR : Hid (Pairs ps L ps.length 0) := Lib.hid (by have := hpr.out; rw [HN.out] at this; exact this)
      have HHA : Hid (Han ps L 0 0) := Lib.hid (Han.start ps L)
      go_wp2
      go_loopw [3, 8] (fun o s wr => ∃ (m : Nat) (L : List (List Int)) (a3 : Option Addr) (m3 c3 : Nat), m ≤ L.length ∧ s = .int .i64 m ∧ o = .slice a3 m3 c3 ∧ wr.heap[w.heap.size]? = some (.cells #[.slice a n cap] 31 (0, 0)) ∧ Rows true w wr w.heap.size (.slice a3 m3 c3) L ∧ Hid (Good ps L) ∧ Hid (Pairs ps L ps.length 0) ∧ Hid (Han ps L m 0)) (fun _ s wr => 200 - (intOf s).toNat)
      case atStart => exact ⟨0, L, a3, m3, c3, Nat.zero_le _, rfl, rfl, hk1, hr1, hgd, HPR, HHA⟩
      case round =>
        clear hk1 hr1 hgd HPR HHA hpr hi hlt
        obtain ⟨m, L, a3, m3, c3, hm, rfl, rfl, hk1, hr1, hgd, hpr, hhan⟩ := hrel
        have HM3 : Hid (m3 = L.length) := Lib.hid (by
          obtain ⟨x, y, h, -⟩ := hr1.len
          simp only [Value.slice.injEq] at h
          exact h.2.1)
        have hlen : m3 ≤ 160 := by have h1 := hgd.out.len HS3.out; have h2 := HN.out; have h3 := HM3.out; omega
        have cb : wr.cell? ⟨w.heap.size, 0, none⟩ = some (.slice a n cap) := by rw [cell_blk hk1]; rfl
        by_cases hltm : m < m3
        · obtain ⟨aa, haa⟩ : ∃ aa, L[m]? = some aa := ⟨L[m]'(by rw [← HM3.out]; exact hltm), List.getElem?_eq_getElem (by rw [← HM3.out]; exact hltm)⟩
          have HAA := Lib.hid haa
          have hmI : (m : Int) < (m3 : Int) := by omega
          have HML : Hid (m < L.length) := Lib.hid (by rw [← HM3.out]; exact hltm)
          clear haa hm
          go_wp2
          go_loopw [3, 56] (fun o s wr => ∃ (j : Nat) (L : List (List Int)) (a3 : Option Addr) (m3 c3 : Nat), j ≤ n ∧ s = .int .i64 j ∧ o = .slice a3 m3 c3 ∧ wr.heap[w.heap.size]? = some (.cells #[.slice a n cap] 31 (0, 0)) ∧ Rows true w wr w.heap.size (.slice a3 m3 c3) L ∧ Hid (m < L.length) ∧ Hid (L[m]? = some aa) ∧ Hid (Good ps L) ∧ Hid (Pairs ps L ps.length 0) ∧ Hid (Han ps L m j)) (fun _ s wr => n - (intOf s).toNat)
          case atStart => exact ⟨0, L, a3, m3, c3, Nat.zero_le _, rfl, rfl, hk1, hr1, HML, HAA, hgd, hpr, hhan⟩
          case round =>
            clear hk1 hr1 hgd hpr hhan HML HAA HM3 hlen cb hltm hmI
            obtain ⟨j, L, a3, m3, c3, hj, rfl, rfl, hk2, hr2, hml, haa, hgd, hpr, hhan⟩ := hrel
            by_cases hltj : j < n
            · have HSUF : Hid (Suf ps aa) := Lib.hid (hgd.out.suf aa (List.mem_of_getElem? haa.out))
              have HRCH : Hid (Rch ps aa) := Lib.hid (hgd.out.rch aa (List.mem_of_getElem? haa.out))
              obtain ⟨g, off, ua2, uc2, rfl, hts2, hd0, hd1, hru2⟩ := HR.out.old HN.out j hltj hr2.below
              have HJL : Hid (j < ps.length) := Lib.hid (by rw [← HN.out]; exact hltj)
              have hl1 : 1 ≤ (phAt ps j).sig.length := by
                have h1 := goodAt_sig (bookB_at HB.out HJL.out)
                simp [sigB] at h1
                exact h1.1.1
              obtain ⟨lj, hlj⟩ : ∃ lj, lj = (phAt ps j).sig.length := ⟨_, rfl⟩
              have HLJ := Lib.hid hlj
              rw [← hlj] at hd1 hru2 hl1
              obtain ⟨gy, oy, rfl⟩ := hru2.some_ (by omega)
              have HU2 := Lib.hid hru2
              have hby := (Below.refl wr.heap.size wr).alloc (Nat.le_refl _) (.cells #[.string (phAt ps j).txt, .slice (some ⟨gy, oy, none⟩) lj uc2] 65)
              have Y3 : Hid ((wr.alloc (.cells #[.string (phAt ps j).txt, .slice (some ⟨gy, oy, none⟩) lj uc2] 65)).heap[wr.heap.size]? = some (.cells #[.string (phAt ps j).txt, .slice (some ⟨gy, oy, none⟩) lj uc2] 65 (0, 0))) := Lib.hid (heap_alloc_new wr _)
              have K3 : Hid ((wr.alloc (.cells #[.string (phAt ps j).txt, .slice (some ⟨gy, oy, none⟩) lj uc2] 65)).heap[w.heap.size]? = some (.cells #[.slice (some ⟨g, off, none⟩) n cap] 31 (0, 0))) := Lib.hid ((Lib.alloc_old wr _ _ (lt_blk hk2)).trans hk2)
              have R3 := Lib.hid (hr2.later hby)
              have cb : wr.cell? ⟨w.heap.size, 0, none⟩ = some (.slice (some ⟨g, off, none⟩) n cap) := by rw [cell_blk hk2]; rfl
              clear hru2 hk2 hr2 hlj
              go_wp2
              generalize wr.alloc (.cells #[.string (phAt ps j).txt, .slice (some ⟨gy, oy, none⟩) lj uc2] 65) = W3 at *
              generalize wr.heap.size = B3 at *
              clear hby hd0 hd1 cb hts2
              -- HALF BEGIN
              have HM3A : Hid (m3 = (L).length) := Lib.hid (by
                obtain ⟨x, y, h, -⟩ := R3.out.len
                simp only [Value.slice.injEq] at h
                exact h.2.1)
              have HLLA : Hid ((L).length ≤ 1048000) := Lib.hid (by have h1 := hgd.out.len HS3.out; rw [← HN.out] at h1; omega)
              have hltmA : m < m3 := by rw [HM3A.out]; exact hml.out
              have hmIA : (m : Int) < (m3 : Int) := by omega
              obtain ⟨grA, uA, harA, hcuA, hruA, -⟩ := R3.out.at_ m hltmA
              first | subst harA | (have harE : grA = grA := (by simpa using harA.symm); subst harE)
              rw [haa.out] at hruA
              replace hruA : RdC W3 uA aa := hruA
              obtain ⟨-, auA, cuA, huA, hcauA⟩ := id hruA
              subst huA
              obtain ⟨alA, halA⟩ : ∃ al, al = aa.length := ⟨_, rfl⟩
              have HALA := Lib.hid halA
              rw [← halA] at hruA hcuA hcauA
              have HUA := Lib.hid hruA
              have hglA : grA < W3.heap.size := Row_lt R3.out
              have ylA := lt_blk Y3.out
              clear hruA halA
              cases hpb : begsB aa (sg ps j) with
              | false =>
                have HPB := Lib.hid hpb
                clear hpb
                have K1A : Hid (∀ wz : World, Below W3.heap.size W3 wz → wz.cell? ⟨grA, m, none⟩ = some (.slice auA alA cuA) ∧ wz.cell? ⟨B3, 1, none⟩ = some (.slice (some ⟨gy, oy, none⟩) lj uc2)) := Lib.hid fun wz h =>
                  ⟨by rw [h.cell (p := ⟨grA, m, none⟩) hglA]; exact hcuA, by rw [h.cell (p := ⟨B3, 1, none⟩) ylA, cell_blk Y3.out]; rfl⟩
                have hbDA := (Below.refl W3.heap.size W3).drew
                obtain ⟨q1A, q2A⟩ := K1A.out _ hbDA
                go_region_held3 (fun w' => w'.cell? ⟨grA, m, none⟩ = some (.slice auA alA cuA) ∧ w'.cell? ⟨B3, 1, none⟩ = some (.slice (some ⟨gy, oy, none⟩) lj uc2))
                  (first | go_keep | exact K1A.out _ (hbDA.trans (hbE4.mono hbDA.size)))
                  ((go_at_call 94; refine (bkBegins_low _ _ aa (sg ps j) false W3.drew HPB.out (HUA.out.later hbDA) (HU2.out.later (R3.out.below.trans (hbDA.mono R3.out.below.size)))).mono ?_; rintro e w4 ⟨rfl, hbE4⟩))
                have hB4 := hbDA.trans (hbE4.mono hbDA.size)
                have K4 := Lib.hid ((hB4.block _ (lt_blk K3.out)).trans K3.out)
                have Y4 := Lib.hid ((hB4.block _ (lt_blk Y3.out)).trans Y3.out)
                have R4 := Lib.hid (R3.out.later hB4)
                clear q1A q2A
                go_wp2_with fail
                have HM3B : Hid (m3 = (L).length) := Lib.hid (by
                  obtain ⟨x, y, h, -⟩ := R4.out.len
                  simp only [Value.slice.injEq] at h
                  exact h.2.1)
                have HLLB : Hid ((L).length ≤ 1048000) := Lib.hid (by have h1 := hgd.out.len HS3.out; rw [← HN.out] at h1; omega)
                have hltmB : m < m3 := by rw [HM3B.out]; exact hml.out
                have hmIB : (m : Int) < (m3 : Int) := by omega
                obtain ⟨grB, uB, harB, hcuB, hruB, -⟩ := R4.out.at_ m hltmB
                first | subst harB | (have harE : grB = grA := (by simpa using harB.symm); subst harE)
                rw [haa.out] at hruB
                replace hruB : RdC w4 uB aa := hruB
                obtain ⟨-, auB, cuB, huB, hcauB⟩ := id hruB
                subst huB
                obtain ⟨alB, halB⟩ : ∃ al, al = aa.length := ⟨_, rfl⟩
                have HALB := Lib.hid halB
                rw [← halB] at hruB hcuB hcauB
                have HUB := Lib.hid hruB
                have hglB : grB < w4.heap.size := Row_lt R4.out
                have ylB := lt_blk Y4.out
                clear hruB halB
                cases hqb : begsB (sg ps j) aa with
                | false =>
                  have HQB := Lib.hid hqb
                  have HHA : Hid (Han ps (L) m (j + 1)) := Lib.hid (hhan.out.step hml.out haa.out (fun x hx => hx) (fun _ _ => rfl) (fun h => by rw [HPB.out] at h; cases h) (fun h => by rw [HQB.out] at h; cases h))
                  clear hqb
                  have K1B : Hid (∀ wz : World, Below w4.heap.size w4 wz → wz.cell? ⟨grB, m, none⟩ = some (.slice auB alB cuB) ∧ wz.cell? ⟨B3, 1, none⟩ = some (.slice (some ⟨gy, oy, none⟩) lj uc2)) := Lib.hid fun wz h =>
                    ⟨by rw [h.cell (p := ⟨grB, m, none⟩) hglB]; exact hcuB, by rw [h.cell (p := ⟨B3, 1, none⟩) ylB, cell_blk Y4.out]; rfl⟩
                  have hbDB := (Below.refl w4.heap.size w4).drew
                  obtain ⟨q1B, q2B⟩ := K1B.out _ hbDB
                  go_region_held3 (fun w' => w'.cell? ⟨grB, m, none⟩ = some (.slice auB alB cuB) ∧ w'.cell? ⟨B3, 1, none⟩ = some (.slice (some ⟨gy, oy, none⟩) lj uc2))
                    (first | go_keep | exact K1B.out _ (hbDB.trans (hbE8.mono hbDB.size)))
                    ((go_at_call 94; refine (bkBegins_low _ _ (sg ps j) aa false w4.drew HQB.out (HU2.out.later (R4.out.below.trans (hbDB.mono R4.out.below.size))) (HUB.out.later hbDB)).mono ?_; rintro e w8 ⟨rfl, hbE8⟩))
                  have hB8 := hbDB.trans (hbE8.mono hbDB.size)
                  have K8 := Lib.hid ((hB8.block _ (lt_blk K4.out)).trans K4.out)
                  have Y8 := Lib.hid ((hB8.block _ (lt_blk Y4.out)).trans Y4.out)
                  have R8 := Lib.hid (R4.out.later hB8)
                  go_wp2
                  go_roundw
                  case rel => exact ⟨j + 1, L, _, m3, c3, by omega, by go_num, rfl, K8.out, R8.out, hml, haa, hgd, Lib.hid (hpr.out.more (fun x hx => hx)), HHA⟩
                  case measure => simp [intOf]; omega
                | true =>
                  have HQB := Lib.hid hqb
                  have hlb : lj ≤ alB := by have h1 := begs_len hqb; rw [HALB.out, HLJ.out]; exact h1
                  have hlbI : (lj : Int) ≤ (alB : Int) := by omega
                  obtain ⟨gu, ou, rfl⟩ := HUB.out.some_ (by omega)
                  have HUSP := Lib.hid (fun h => HUB.out.cutP (k := lj) h)
                  have HUSN := Lib.hid (fun h => HUB.out.drop2 hlb h)
                  have HDLB : Hid ((aa.drop lj).length ≤ 1048576) := Lib.hid (by
                    rw [List.length_drop]
                    obtain ⟨q, z, h1, h2, h3⟩ := HSUF.out
                    have h4 := HS3.out q h1
                    have h5 := congrArg List.length h3
                    rw [List.length_drop] at h5
                    omega)
                  have HGB : Hid (Good ps (putL (L) (aa.drop lj))) := Lib.hid (by
                    rw [HLJ.out]
                    exact hgd.out.put (((rch_closed ps).2 aa j HRCH.out HJL.out).2 HQB.out) (suf_off HSUF.out HQB.out))
                  have HHA : Hid (Han ps (putL (L) (aa.drop lj)) m (j + 1)) := Lib.hid (hhan.out.step hml.out haa.out (fun x hx => mem_putL.2 (.inl ((fun x hx => hx) x hx))) (fun q hq => (putL_get (Nat.lt_of_lt_of_le hq (Nat.le_refl _))).trans ((fun _ _ => rfl) q hq)) (fun h => mem_putL.2 (.inl ((fun h => by rw [HPB.out] at h; cases h) h))) (fun h => mem_putL.2 (.inr (by rw [HLJ.out]; rfl))))
                  clear hqb
                  have K1B : Hid (∀ wz : World, Below w4.heap.size w4 wz → wz.cell? ⟨grB, m, none⟩ = some (.slice (some ⟨gu, ou, none⟩) alB cuB) ∧ wz.cell? ⟨B3, 1, none⟩ = some (.slice (some ⟨gy, oy, none⟩) lj uc2)) := Lib.hid fun wz h =>
                    ⟨by rw [h.cell (p := ⟨grB, m, none⟩) hglB]; exact hcuB, by rw [h.cell (p := ⟨B3, 1, none⟩) ylB, cell_blk Y4.out]; rfl⟩
                  have hbDB := (Below.refl w4.heap.size w4).drew
                  obtain ⟨q1B, q2B⟩ := K1B.out _ hbDB
                  go_region_held3 (fun w' => w'.cell? ⟨grB, m, none⟩ = some (.slice (some ⟨gu, ou, none⟩) alB cuB) ∧ w'.cell? ⟨B3, 1, none⟩ = some (.slice (some ⟨gy, oy, none⟩) lj uc2))
                    (first | go_keep | exact K1B.out _ (hbDB.trans (hbE8.mono hbDB.size)))
                    ((go_at_call 94; refine (bkBegins_low _ _ (sg ps j) aa true w4.drew HQB.out (HU2.out.later (R4.out.below.trans (hbDB.mono R4.out.below.size))) (HUB.out.later hbDB)).mono ?_; rintro e w8 ⟨rfl, hbE8⟩))
                  have hB8 := hbDB.trans (hbE8.mono hbDB.size)
                  have K8 := Lib.hid ((hB8.block _ (lt_blk K4.out)).trans K4.out)
                  have Y8 := Lib.hid ((hB8.block _ (lt_blk Y4.out)).trans Y4.out)
                  have R8 := Lib.hid (R4.out.later hB8)
                  go_wp2_with fail
                  by_cases hcB : cuB = lj
                  · skip
                    have hbF9 := (Below.refl w8.heap.size w8).drew
                    obtain ⟨p19, p29⟩ := K1B.out _ (hB8.trans (hbF9.mono hB8.size))
                    have RF9 := Lib.hid (R8.out.later hbF9)
                    have KF9 := Lib.hid ((hbF9.block _ (lt_blk K8.out)).trans K8.out)
                    have YF9 := Lib.hid ((hbF9.block _ (lt_blk Y8.out)).trans Y8.out)
                    go_still_tail 9, (by kernel_rfl)
                    change wpList _ _ _ _ _ w8.drew
                    generalize w8.drew = wd9 at *
                    go_wp2_with fail
                    refine (bkPut_any w w.heap.size _ _ (L) (aa.drop lj) _ HLLB.out HDLB.out RF9.out ((HUSP.out hcB).later (hB8.trans (hbF9.mono hB8.size)))).mono ?_
                    rintro e w9 ⟨a9, m9, c9, rfl, hr9, hs9, hfr9⟩
                    have K9 := Lib.hid ((hfr9 _ (lt_blk KF9.out) (RF9.out.apart (by decide) KF9.out)).trans KF9.out)
                    have Y9 := Lib.hid ((hfr9 _ (lt_blk YF9.out) (RF9.out.apart (by decide) YF9.out)).trans YF9.out)
                    have R9 := Lib.hid hr9
                    clear hfr9 hr9
                    clear hcB
                    go_wp2
                    go_roundw
                    case rel => exact ⟨j + 1, _, a9, m9, c9, by omega, by go_num, rfl, K9.out, R9.out, Lib.hid (Nat.lt_of_lt_of_le hml.out (putL_len _ _)), Lib.hid (by rw [putL_get hml.out]; exact haa.out), HGB, Lib.hid (hpr.out.more fun x hx => mem_putL.2 (.inl ((fun x hx => hx) x hx))), HHA⟩
                    case measure => (simp [intOf]; omega)
                  · skip
                    have hbF9 := (Below.refl w8.heap.size w8).drew
                    obtain ⟨p19, p29⟩ := K1B.out _ (hB8.trans (hbF9.mono hB8.size))
                    have RF9 := Lib.hid (R8.out.later hbF9)
                    have KF9 := Lib.hid ((hbF9.block _ (lt_blk K8.out)).trans K8.out)
                    have YF9 := Lib.hid ((hbF9.block _ (lt_blk Y8.out)).trans Y8.out)
                    go_still_tail 9, (by kernel_rfl)
                    change wpList _ _ _ _ _ w8.drew
                    generalize w8.drew = wd9 at *
                    go_wp2_with fail
                    refine (bkPut_any w w.heap.size _ _ (L) (aa.drop lj) _ HLLB.out HDLB.out RF9.out ((HUSN.out hcB).later (hB8.trans (hbF9.mono hB8.size)))).mono ?_
                    rintro e w9 ⟨a9, m9, c9, rfl, hr9, hs9, hfr9⟩
                    have K9 := Lib.hid ((hfr9 _ (lt_blk KF9.out) (RF9.out.apart (by decide) KF9.out)).trans KF9.out)
                    have Y9 := Lib.hid ((hfr9 _ (lt_blk YF9.out) (RF9.out.apart (by decide) YF9.out)).trans YF9.out)
                    have R9 := Lib.hid hr9
                    clear hfr9 hr9
                    clear hcB
                    go_wp2
                    go_roundw
                    case rel => exact ⟨j + 1, _, a9, m9, c9, by omega, by go_num, rfl, K9.out, R9.out, Lib.hid (Nat.lt_of_lt_of_le hml.out (putL_len _ _)), Lib.hid (by rw [putL_get hml.out]; exact haa.out), HGB, Lib.hid (hpr.out.more fun x hx => mem_putL.2 (.inl ((fun x hx => hx) x hx))), HHA⟩
                    case measure => (simp [intOf]; omega)
              | true =>
                have HPB := Lib.hid hpb
                have hla : alA ≤ lj := by have h1 := begs_len hpb; rw [HALA.out, HLJ.out]; exact h1
                have hlaI : (alA : Int) ≤ (lj : Int) := by omega
                have HUSPA := Lib.hid (fun h => HU2.out.cutP (k := alA) h)
                have HUSNA := Lib.hid (fun h => HU2.out.drop2 hla h)
                have HDLA : Hid (((sg ps j).drop alA).length ≤ 1048576) := Lib.hid (by rw [List.length_drop]; have := HS3.out j HJL.out; omega)
                have HGA : Hid (Good ps (putL L ((sg ps j).drop alA))) := Lib.hid (by
                  rw [HALA.out]
                  exact hgd.out.put (((rch_closed ps).2 aa j HRCH.out HJL.out).1 HPB.out) (suf_on HJL.out HPB.out))
                have HIN : Hid ((sg ps j).drop aa.length ∈ putL L ((sg ps j).drop alA)) := Lib.hid (mem_putL.2 (.inr (by rw [HALA.out])))
                have hml5 : Hid (m < (putL L ((sg ps j).drop alA)).length) := Lib.hid (Nat.lt_of_lt_of_le hml.out (putL_len _ _))
                have haa5 : Hid ((putL L ((sg ps j).drop alA))[m]? = some aa) := Lib.hid (by rw [putL_get hml.out]; exact haa.out)
                clear hpb
                have K1A : Hid (∀ wz : World, Below W3.heap.size W3 wz → wz.cell? ⟨grA, m, none⟩ = some (.slice auA alA cuA) ∧ wz.cell? ⟨B3, 1, none⟩ = some (.slice (some ⟨gy, oy, none⟩) lj uc2)) := Lib.hid fun wz h =>
                  ⟨by rw [h.cell (p := ⟨grA, m, none⟩) hglA]; exact hcuA, by rw [h.cell (p := ⟨B3, 1, none⟩) ylA, cell_blk Y3.out]; rfl⟩
                have hbDA := (Below.refl W3.heap.size W3).drew
                obtain ⟨q1A, q2A⟩ := K1A.out _ hbDA
                go_region_held3 (fun w' => w'.cell? ⟨grA, m, none⟩ = some (.slice auA alA cuA) ∧ w'.cell? ⟨B3, 1, none⟩ = some (.slice (some ⟨gy, oy, none⟩) lj uc2))
                  (first | go_keep | exact K1A.out _ (hbDA.trans (hbE4.mono hbDA.size)))
                  ((go_at_call 94; refine (bkBegins_low _ _ aa (sg ps j) true W3.drew HPB.out (HUA.out.later hbDA) (HU2.out.later (R3.out.below.trans (hbDA.mono R3.out.below.size)))).mono ?_; rintro e w4 ⟨rfl, hbE4⟩))
                have hB4 := hbDA.trans (hbE4.mono hbDA.size)
                have K4 := Lib.hid ((hB4.block _ (lt_blk K3.out)).trans K3.out)
                have Y4 := Lib.hid ((hB4.block _ (lt_blk Y3.out)).trans Y3.out)
                have R4 := Lib.hid (R3.out.later hB4)
                go_wp2_with fail
                by_cases hcA : uc2 = alA
                · skip
                  have hbF5 := (Below.refl w4.heap.size w4).drew
                  obtain ⟨p15, p25⟩ := K1A.out _ (hB4.trans (hbF5.mono hB4.size))
                  have RF5 := Lib.hid (R4.out.later hbF5)
                  have KF5 := Lib.hid ((hbF5.block _ (lt_blk K4.out)).trans K4.out)
                  have YF5 := Lib.hid ((hbF5.block _ (lt_blk Y4.out)).trans Y4.out)
                  go_still_tail 9, (by kernel_rfl)
                  change wpList _ _ _ _ _ w4.drew
                  generalize w4.drew = wd5 at *
                  go_wp2_with fail
                  refine (bkPut_any w w.heap.size _ _ L ((sg ps j).drop alA) _ HLLA.out HDLA.out RF5.out ((HUSPA.out hcA).later RF5.out.below)).mono ?_
                  rintro e w5 ⟨a5, m5, c5, rfl, hr5, hs5, hfr5⟩
                  have K5 := Lib.hid ((hfr5 _ (lt_blk KF5.out) (RF5.out.apart (by decide) KF5.out)).trans KF5.out)
                  have Y5 := Lib.hid ((hfr5 _ (lt_blk YF5.out) (RF5.out.apart (by decide) YF5.out)).trans YF5.out)
                  have R5 := Lib.hid hr5
                  clear hfr5 hr5
                  clear hcA q1A q2A p15 p25
                  go_wp2_with fail
                  have HM3B : Hid (m5 = (putL L ((sg ps j).drop alA)).length) := Lib.hid (by
                    obtain ⟨x, y, h, -⟩ := R5.out.len
                    simp only [Value.slice.injEq] at h
                    exact h.2.1)
                  have HLLB : Hid ((putL L ((sg ps j).drop alA)).length ≤ 1048000) := Lib.hid (by have h1 := HGA.out.len HS3.out; rw [← HN.out] at h1; omega)
                  have hltmB : m < m5 := by rw [HM3B.out]; exact hml5.out
                  have hmIB : (m : Int) < (m5 : Int) := by omega
                  obtain ⟨grB, uB, harB, hcuB, hruB, -⟩ := R5.out.at_ m hltmB
                  first | subst harB | (have harE : grB = grA := (by simpa using harB.symm); subst harE)
                  rw [haa5.out] at hruB
                  replace hruB : RdC w5 uB aa := hruB
                  obtain ⟨-, auB, cuB, huB, hcauB⟩ := id hruB
                  subst huB
                  obtain ⟨alB, halB⟩ : ∃ al, al = aa.length := ⟨_, rfl⟩
                  have HALB := Lib.hid halB
                  rw [← halB] at hruB hcuB hcauB
                  have HUB := Lib.hid hruB
                  have hglB : grB < w5.heap.size := Row_lt R5.out
                  have ylB := lt_blk Y5.out
                  clear hruB halB
                  cases hqb : begsB (sg ps j) aa with
                  | false =>
                    have HQB := Lib.hid hqb
                    have HHA : Hid (Han ps (putL L ((sg ps j).drop alA)) m (j + 1)) := Lib.hid (hhan.out.step hml.out haa.out (fun x hx => mem_putL.2 (.inl hx)) (fun _ h => putL_get h) (fun h => HIN.out) (fun h => by rw [HQB.out] at h; cases h))
                    clear hqb
                    have K1B : Hid (∀ wz : World, Below w5.heap.size w5 wz → wz.cell? ⟨grB, m, none⟩ = some (.slice auB alB cuB) ∧ wz.cell? ⟨B3, 1, none⟩ = some (.slice (some ⟨gy, oy, none⟩) lj uc2)) := Lib.hid fun wz h =>
                      ⟨by rw [h.cell (p := ⟨grB, m, none⟩) hglB]; exact hcuB, by rw [h.cell (p := ⟨B3, 1, none⟩) ylB, cell_blk Y5.out]; rfl⟩
                    have hbDB := (Below.refl w5.heap.size w5).drew
                    obtain ⟨q1B, q2B⟩ := K1B.out _ hbDB
                    go_region_held3 (fun w' => w'.cell? ⟨grB, m, none⟩ = some (.slice auB alB cuB) ∧ w'.cell? ⟨B3, 1, none⟩ = some (.slice (some ⟨gy, oy, none⟩) lj uc2))
                      (first | go_keep | exact K1B.out _ (hbDB.trans (hbE8.mono hbDB.size)))
                      ((go_at_call 94; refine (bkBegins_low _ _ (sg ps j) aa false w5.drew HQB.out (HU2.out.later (R5.out.below.trans (hbDB.mono R5.out.below.size))) (HUB.out.later hbDB)).mono ?_; rintro e w8 ⟨rfl, hbE8⟩))
                    have hB8 := hbDB.trans (hbE8.mono hbDB.size)
                    have K8 := Lib.hid ((hB8.block _ (lt_blk K5.out)).trans K5.out)
                    have Y8 := Lib.hid ((hB8.block _ (lt_blk Y5.out)).trans Y5.out)
                    have R8 := Lib.hid (R5.out.later hB8)
                    go_wp2
                    go_roundw
                    case rel => exact ⟨j + 1, putL L ((sg ps j).drop alA), _, m5, c5, by omega, by go_num, rfl, K8.out, R8.out, hml5, haa5, HGA, Lib.hid (hpr.out.more (fun x hx => mem_putL.2 (.inl hx))), HHA⟩
                    case measure => simp [intOf]; omega
                  | true =>
                    have HQB := Lib.hid hqb
                    have hlb : lj ≤ alB := by have h1 := begs_len hqb; rw [HALB.out, HLJ.out]; exact h1
                    have hlbI : (lj : Int) ≤ (alB : Int) := by omega
                    obtain ⟨gu, ou, rfl⟩ := HUB.out.some_ (by omega)
                    have HUSP := Lib.hid (fun h => HUB.out.cutP (k := lj) h)
                    have HUSN := Lib.hid (fun h => HUB.out.drop2 hlb h)
                    have HDLB : Hid ((aa.drop lj).length ≤ 1048576) := Lib.hid (by
                      rw [List.length_drop]
                      obtain ⟨q, z, h1, h2, h3⟩ := HSUF.out
                      have h4 := HS3.out q h1
                      have h5 := congrArg List.length h3
                      rw [List.length_drop] at h5
                      omega)
                    have HGB : Hid (Good ps (putL (putL L ((sg ps j).drop alA)) (aa.drop lj))) := Lib.hid (by
                      rw [HLJ.out]
                      exact HGA.out.put (((rch_closed ps).2 aa j HRCH.out HJL.out).2 HQB.out) (suf_off HSUF.out HQB.out))
                    have HHA : Hid (Han ps (putL (putL L ((sg ps j).drop alA)) (aa.drop lj)) m (j + 1)) := Lib.hid (hhan.out.step hml.out haa.out (fun x hx => mem_putL.2 (.inl ((fun x hx => mem_putL.2 (.inl hx)) x hx))) (fun q hq => (putL_get (Nat.lt_of_lt_of_le hq (putL_len L _))).trans ((fun _ h => putL_get h) q hq)) (fun h => mem_putL.2 (.inl ((fun h => HIN.out) h))) (fun h => mem_putL.2 (.inr (by rw [HLJ.out]; rfl))))
                    clear hqb
                    have K1B : Hid (∀ wz : World, Below w5.heap.size w5 wz → wz.cell? ⟨grB, m, none⟩ = some (.slice (some ⟨gu, ou, none⟩) alB cuB) ∧ wz.cell? ⟨B3, 1, none⟩ = some (.slice (some ⟨gy, oy, none⟩) lj uc2)) := Lib.hid fun wz h =>
                      ⟨by rw [h.cell (p := ⟨grB, m, none⟩) hglB]; exact hcuB, by rw [h.cell (p := ⟨B3, 1, none⟩) ylB, cell_blk Y5.out]; rfl⟩
                    have hbDB := (Below.refl w5.heap.size w5).drew
                    obtain ⟨q1B, q2B⟩ := K1B.out _ hbDB
                    go_region_held3 (fun w' => w'.cell? ⟨grB, m, none⟩ = some (.slice (some ⟨gu, ou, none⟩) alB cuB) ∧ w'.cell? ⟨B3, 1, none⟩ = some (.slice (some ⟨gy, oy, none⟩) lj uc2))
                      (first | go_keep | exact K1B.out _ (hbDB.trans (hbE8.mono hbDB.size)))
                      ((go_at_call 94; refine (bkBegins_low _ _ (sg ps j) aa true w5.drew HQB.out (HU2.out.later (R5.out.below.trans (hbDB.mono R5.out.below.size))) (HUB.out.later hbDB)).mono ?_; rintro e w8 ⟨rfl, hbE8⟩))
                    have hB8 := hbDB.trans (hbE8.mono hbDB.size)
                    have K8 := Lib.hid ((hB8.block _ (lt_blk K5.out)).trans K5.out)
                    have Y8 := Lib.hid ((hB8.block _ (lt_blk Y5.out)).trans Y5.out)
                    have R8 := Lib.hid (R5.out.later hB8)
                    go_wp2_with fail
                    by_cases hcB : cuB = lj
                    · skip
                      have hbF9 := (Below.refl w8.heap.size w8).drew
                      obtain ⟨p19, p29⟩ := K1B.out _ (hB8.trans (hbF9.mono hB8.size))
                      have RF9 := Lib.hid (R8.out.later hbF9)
                      have KF9 := Lib.hid ((hbF9.block _ (lt_blk K8.out)).trans K8.out)
                      have YF9 := Lib.hid ((hbF9.block _ (lt_blk Y8.out)).trans Y8.out)
                      go_still_tail 9, (by kernel_rfl)
                      change wpList _ _ _ _ _ w8.drew
                      generalize w8.drew = wd9 at *
                      go_wp2_with fail
                      refine (bkPut_any w w.heap.size _ _ (putL L ((sg ps j).drop alA)) (aa.drop lj) _ HLLB.out HDLB.out RF9.out ((HUSP.out hcB).later (hB8.trans (hbF9.mono hB8.size)))).mono ?_
                      rintro e w9 ⟨a9, m9, c9, rfl, hr9, hs9, hfr9⟩
                      have K9 := Lib.hid ((hfr9 _ (lt_blk KF9.out) (RF9.out.apart (by decide) KF9.out)).trans KF9.out)
                      have Y9 := Lib.hid ((hfr9 _ (lt_blk YF9.out) (RF9.out.apart (by decide) YF9.out)).trans YF9.out)
                      have R9 := Lib.hid hr9
                      clear hfr9 hr9
                      clear hcB
                      go_wp2
                      go_roundw
                      case rel => exact ⟨j + 1, _, a9, m9, c9, by omega, by go_num, rfl, K9.out, R9.out, Lib.hid (Nat.lt_of_lt_of_le hml5.out (putL_len _ _)), Lib.hid (by rw [putL_get hml5.out]; exact haa5.out), HGB, Lib.hid (hpr.out.more fun x hx => mem_putL.2 (.inl ((fun x hx => mem_putL.2 (.inl hx)) x hx))), HHA⟩
                      case measure => (simp [intOf]; omega)
                    · skip
                      have hbF9 := (Below.refl w8.heap.size w8).drew
                      obtain ⟨p19, p29⟩ := K1B.out _ (hB8.trans (hbF9.mono hB8.size))
                      have RF9 := Lib.hid (R8.out.later hbF9)
                      have KF9 := Lib.hid ((hbF9.block _ (lt_blk K8.out)).trans K8.out)
                      have YF9 := Lib.hid ((hbF9.block _ (lt_blk Y8.out)).trans Y8.out)
                      go_still_tail 9, (by kernel_rfl)
                      change wpList _ _ _ _ _ w8.drew
                      generalize w8.drew = wd9 at *
                      go_wp2_with fail
                      refine (bkPut_any w w.heap.size _ _ (putL L ((sg ps j).drop alA)) (aa.drop lj) _ HLLB.out HDLB.out RF9.out ((HUSN.out hcB).later (hB8.trans (hbF9.mono hB8.size)))).mono ?_
                      rintro e w9 ⟨a9, m9, c9, rfl, hr9, hs9, hfr9⟩
                      have K9 := Lib.hid ((hfr9 _ (lt_blk KF9.out) (RF9.out.apart (by decide) KF9.out)).trans KF9.out)
                      have Y9 := Lib.hid ((hfr9 _ (lt_blk YF9.out) (RF9.out.apart (by decide) YF9.out)).trans YF9.out)
                      have R9 := Lib.hid hr9
                      clear hfr9 hr9
                      clear hcB
                      go_wp2
                      go_roundw
                      case rel => exact ⟨j + 1, _, a9, m9, c9, by omega, by go_num, rfl, K9.out, R9.out, Lib.hid (Nat.lt_of_lt_of_le hml5.out (putL_len _ _)), Lib.hid (by rw [putL_get hml5.out]; exact haa5.out), HGB, Lib.hid (hpr.out.more fun x hx => mem_putL.2 (.inl ((fun x hx => mem_putL.2 (.inl hx)) x hx))), HHA⟩
                      case measure => (simp [intOf]; omega)
                · skip
                  have hbF5 := (Below.refl w4.heap.size w4).drew
                  obtain ⟨p15, p25⟩ := K1A.out _ (hB4.trans (hbF5.mono hB4.size))
                  have RF5 := Lib.hid (R4.out.later hbF5)
                  have KF5 := Lib.hid ((hbF5.block _ (lt_blk K4.out)).trans K4.out)
                  have YF5 := Lib.hid ((hbF5.block _ (lt_blk Y4.out)).trans Y4.out)
                  go_still_tail 9, (by kernel_rfl)
                  change wpList _ _ _ _ _ w4.drew
                  generalize w4.drew = wd5 at *
                  go_wp2_with fail
                  refine (bkPut_any w w.heap.size _ _ L ((sg ps j).drop alA) _ HLLA.out HDLA.out RF5.out ((HUSNA.out hcA).later RF5.out.below)).mono ?_
                  rintro e w5 ⟨a5, m5, c5, rfl, hr5, hs5, hfr5⟩
                  have K5 := Lib.hid ((hfr5 _ (lt_blk KF5.out) (RF5.out.apart (by decide) KF5.out)).trans KF5.out)
                  have Y5 := Lib.hid ((hfr5 _ (lt_blk YF5.out) (RF5.out.apart (by decide) YF5.out)).trans YF5.out)
                  have R5 := Lib.hid hr5
                  clear hfr5 hr5
                  clear hcA q1A q2A p15 p25
                  go_wp2_with fail
                  have HM3B : Hid (m5 = (putL L ((sg ps j).drop alA)).length) := Lib.hid (by
                    obtain ⟨x, y, h, -⟩ := R5.out.len
                    simp only [Value.slice.injEq] at h
                    exact h.2.1)
                  have HLLB : Hid ((putL L ((sg ps j).drop alA)).length ≤ 1048000) := Lib.hid (by have h1 := HGA.out.len HS3.out; rw [← HN.out] at h1; omega)
                  have hltmB : m < m5 := by rw [HM3B.out]; exact hml5.out
                  have hmIB : (m : Int) < (m5 : Int) := by omega
                  obtain ⟨grB, uB, harB, hcuB, hruB, -⟩ := R5.out.at_ m hltmB
                  first | subst harB | (have harE : grB = grA := (by simpa using harB.symm); subst harE)
                  rw [haa5.out] at hruB
                  replace hruB : RdC w5 uB aa := hruB
                  obtain ⟨-, auB, cuB, huB, hcauB⟩ := id hruB
                  subst huB
                  obtain ⟨alB, halB⟩ : ∃ al, al = aa.length := ⟨_, rfl⟩
                  have HALB := Lib.hid halB
                  rw [← halB] at hruB hcuB hcauB
                  have HUB := Lib.hid hruB
                  have hglB : grB < w5.heap.size := Row_lt R5.out
                  have ylB := lt_blk Y5.out
                  clear hruB halB
                  cases hqb : begsB (sg ps j) aa with
                  | false =>
                    have HQB := Lib.hid hqb
                    have HHA : Hid (Han ps (putL L ((sg ps j).drop alA)) m (j + 1)) := Lib.hid (hhan.out.step hml.out haa.out (fun x hx => mem_putL.2 (.inl hx)) (fun _ h => putL_get h) (fun h => HIN.out) (fun h => by rw [HQB.out] at h; cases h))
                    clear hqb
                    have K1B : Hid (∀ wz : World, Below w5.heap.size w5 wz → wz.cell? ⟨grB, m, none⟩ = some (.slice auB alB cuB) ∧ wz.cell? ⟨B3, 1, none⟩ = some (.slice (some ⟨gy, oy, none⟩) lj uc2)) := Lib.hid fun wz h =>
                      ⟨by rw [h.cell (p := ⟨grB, m, none⟩) hglB]; exact hcuB, by rw [h.cell (p := ⟨B3, 1, none⟩) ylB, cell_blk Y5.out]; rfl⟩
                    have hbDB := (Below.refl w5.heap.size w5).drew
                    obtain ⟨q1B, q2B⟩ := K1B.out _ hbDB
                    go_region_held3 (fun w' => w'.cell? ⟨grB, m, none⟩ = some (.slice auB alB cuB) ∧ w'.cell? ⟨B3, 1, none⟩ = some (.slice (some ⟨gy, oy, none⟩) lj uc2))
                      (first | go_keep | exact K1B.out _ (hbDB.trans (hbE8.mono hbDB.size)))
                      ((go_at_call 94; refine (bkBegins_low _ _ (sg ps j) aa false w5.drew HQB.out (HU2.out.later (R5.out.below.trans (hbDB.mono R5.out.below.size))) (HUB.out.later hbDB)).mono ?_; rintro e w8 ⟨rfl, hbE8⟩))
                    have hB8 := hbDB.trans (hbE8.mono hbDB.size)
                    have K8 := Lib.hid ((hB8.block _ (lt_blk K5.out)).trans K5.out)
                    have Y8 := Lib.hid ((hB8.block _ (lt_blk Y5.out)).trans Y5.out)
                    have R8 := Lib.hid (R5.out.later hB8)
                    go_wp2
                    go_roundw
                    case rel => exact ⟨j + 1, putL L ((sg ps j).drop alA), _, m5, c5, by omega, by go_num, rfl, K8.out, R8.out, hml5, haa5, HGA, Lib.hid (hpr.out.more (fun x hx => mem_putL.2 (.inl hx))), HHA⟩
                    case measure => simp [intOf]; omega
                  | true =>
                    have HQB := Lib.hid hqb
                    have hlb : lj ≤ alB := by have h1 := begs_len hqb; rw [HALB.out, HLJ.out]; exact h1
                    have hlbI : (lj : Int) ≤ (alB : Int) := by omega
                    obtain ⟨gu, ou, rfl⟩ := HUB.out.some_ (by omega)
                    have HUSP := Lib.hid (fun h => HUB.out.cutP (k := lj) h)
                    have HUSN := Lib.hid (fun h => HUB.out.drop2 hlb h)
                    have HDLB : Hid ((aa.drop lj).length ≤ 1048576) := Lib.hid (by
                      rw [List.length_drop]
                      obtain ⟨q, z, h1, h2, h3⟩ := HSUF.out
                      have h4 := HS3.out q h1
                      have h5 := congrArg List.length h3
                      rw [List.length_drop] at h5
                      omega)
                    have HGB : Hid (Good ps (putL (putL L ((sg ps j).drop alA)) (aa.drop lj))) := Lib.hid (by
                      rw [HLJ.out]
                      exact HGA.out.put (((rch_closed ps).2 aa j HRCH.out HJL.out).2 HQB.out) (suf_off HSUF.out HQB.out))
                    have HHA : Hid (Han ps (putL (putL L ((sg ps j).drop alA)) (aa.drop lj)) m (j + 1)) := Lib.hid (hhan.out.step hml.out haa.out (fun x hx => mem_putL.2 (.inl ((fun x hx => mem_putL.2 (.inl hx)) x hx))) (fun q hq => (putL_get (Nat.lt_of_lt_of_le hq (putL_len L _))).trans ((fun _ h => putL_get h) q hq)) (fun h => mem_putL.2 (.inl ((fun h => HIN.out) h))) (fun h => mem_putL.2 (.inr (by rw [HLJ.out]; rfl))))
                    clear hqb
                    have K1B : Hid (∀ wz : World, Below w5.heap.size w5 wz → wz.cell? ⟨grB, m, none⟩ = some (.slice (some ⟨gu, ou, none⟩) alB cuB) ∧ wz.cell? ⟨B3, 1, none⟩ = some (.slice (some ⟨gy, oy, none⟩) lj uc2)) := Lib.hid fun wz h =>
                      ⟨by rw [h.cell (p := ⟨grB, m, none⟩) hglB]; exact hcuB, by rw [h.cell (p := ⟨B3, 1, none⟩) ylB, cell_blk Y5.out]; rfl⟩
                    have hbDB := (Below.refl w5.heap.size w5).drew
                    obtain ⟨q1B, q2B⟩ := K1B.out _ hbDB
                    go_region_held3 (fun w' => w'.cell? ⟨grB, m, none⟩ = some (.slice (some ⟨gu, ou, none⟩) alB cuB) ∧ w'.cell? ⟨B3, 1, none⟩ = some (.slice (some ⟨gy, oy, none⟩) lj uc2))
                      (first | go_keep | exact K1B.out _ (hbDB.trans (hbE8.mono hbDB.size)))
                      ((go_at_call 94; refine (bkBegins_low _ _ (sg ps j) aa true w5.drew HQB.out (HU2.out.later (R5.out.below.trans (hbDB.mono R5.out.below.size))) (HUB.out.later hbDB)).mono ?_; rintro e w8 ⟨rfl, hbE8⟩))
                    have hB8 := hbDB.trans (hbE8.mono hbDB.size)
                    have K8 := Lib.hid ((hB8.block _ (lt_blk K5.out)).trans K5.out)
                    have Y8 := Lib.hid ((hB8.block _ (lt_blk Y5.out)).trans Y5.out)
                    have R8 := Lib.hid (R5.out.later hB8)
                    go_wp2_with fail
                    by_cases hcB : cuB = lj
                    · skip
                      have hbF9 := (Below.refl w8.heap.size w8).drew
                      obtain ⟨p19, p29⟩ := K1B.out _ (hB8.trans (hbF9.mono hB8.size))
                      have RF9 := Lib.hid (R8.out.later hbF9)
                      have KF9 := Lib.hid ((hbF9.block _ (lt_blk K8.out)).trans K8.out)
                      have YF9 := Lib.hid ((hbF9.block _ (lt_blk Y8.out)).trans Y8.out)
                      go_still_tail 9, (by kernel_rfl)
                      change wpList _ _ _ _ _ w8.drew
                      generalize w8.drew = wd9 at *
                      go_wp2_with fail
                      refine (bkPut_any w w.heap.size _ _ (putL L ((sg ps j).drop alA)) (aa.drop lj) _ HLLB.out HDLB.out RF9.out ((HUSP.out hcB).later (hB8.trans (hbF9.mono hB8.size)))).mono ?_
                      rintro e w9 ⟨a9, m9, c9, rfl, hr9, hs9, hfr9⟩
                      have K9 := Lib.hid ((hfr9 _ (lt_blk KF9.out) (RF9.out.apart (by decide) KF9.out)).trans KF9.out)
                      have Y9 := Lib.hid ((hfr9 _ (lt_blk YF9.out) (RF9.out.apart (by decide) YF9.out)).trans YF9.out)
                      have R9 := Lib.hid hr9
                      clear hfr9 hr9
                      clear hcB
                      go_wp2
                      go_roundw
                      case rel => exact ⟨j + 1, _, a9, m9, c9, by omega, by go_num, rfl, K9.out, R9.out, Lib.hid (Nat.lt_of_lt_of_le hml5.out (putL_len _ _)), Lib.hid (by rw [putL_get hml5.out]; exact haa5.out), HGB, Lib.hid (hpr.out.more fun x hx => mem_putL.2 (.inl ((fun x hx => mem_putL.2 (.inl hx)) x hx))), HHA⟩
                      case measure => (simp [intOf]; omega)
                    · skip
                      have hbF9 := (Below.refl w8.heap.size w8).drew
                      obtain ⟨p19, p29⟩ := K1B.out _ (hB8.trans (hbF9.mono hB8.size))
                      have RF9 := Lib.hid (R8.out.later hbF9)
                      have KF9 := Lib.hid ((hbF9.block _ (lt_blk K8.out)).trans K8.out)
                      have YF9 := Lib.hid ((hbF9.block _ (lt_blk Y8.out)).trans Y8.out)
                      go_still_tail 9, (by kernel_rfl)
                      change wpList _ _ _ _ _ w8.drew
                      generalize w8.drew = wd9 at *
                      go_wp2_with fail
                      refine (bkPut_any w w.heap.size _ _ (putL L ((sg ps j).drop alA)) (aa.drop lj) _ HLLB.out HDLB.out RF9.out ((HUSN.out hcB).later (hB8.trans (hbF9.mono hB8.size)))).mono ?_
                      rintro e w9 ⟨a9, m9, c9, rfl, hr9, hs9, hfr9⟩
                      have K9 := Lib.hid ((hfr9 _ (lt_blk KF9.out) (RF9.out.apart (by decide) KF9.out)).trans KF9.out)
                      have Y9 := Lib.hid ((hfr9 _ (lt_blk YF9.out) (RF9.out.apart (by decide) YF9.out)).trans YF9.out)
                      have R9 := Lib.hid hr9
                      clear hfr9 hr9
                      clear hcB
                      go_wp2
                      go_roundw
                      case rel => exact ⟨j + 1, _, a9, m9, c9, by omega, by go_num, rfl, K9.out, R9.out, Lib.hid (Nat.lt_of_lt_of_le hml5.out (putL_len _ _)), Lib.hid (by rw [putL_get hml5.out]; exact haa5.out), HGB, Lib.hid (hpr.out.more fun x hx => mem_putL.2 (.inl ((fun x hx => mem_putL.2 (.inl hx)) x hx))), HHA⟩
                      case measure => (simp [intOf]; omega)
              -- HALF END
            · obtain rfl : n = j := by omega
              have HPR : Hid (Han ps L (m + 1) 0) := Lib.hid (Han.next (by have := hhan.out; rw [HN.out] at this; exact this))
              have hm1 : m + 1 ≤ L.length := hml.out
              have hm2 : m ≤ 160 := by have h1 := hgd.out.len HS3.out; have h2 := HN.out; have h3 := hml.out; omega
              go_wp2
              go_roundw
              case rel => exact ⟨m + 1, L, a3, m3, c3, hm1, by go_num, rfl, hk2, hr2, hgd, hpr, HPR⟩
              case measure => simp [intOf]; omega
        · have HE : Hid (m = L.length) := Lib.hid (by have := HM3.out; omega)
          have HCL : Hid (ClosedR ps (· ∈ L)) := Lib.hid (closed_all hpr.out (by have h1 := hhan.out; rw [HE.out] at h1; exact h1))
          have HOK : Hid (oneB ps = !(inL L [])) := Lib.hid (by
            by_cases h : [] ∈ L
            · rw [oneB_no (hgd.out.rch _ h), inL_yes h]; rfl
            · rw [oneB_yes HCL.out h, inL_no h]; rfl)
          have hmI : ¬ ((m : Int) < (m3 : Int)) := by omega
          have hlen' : L.length ≤ 160 := by rw [← HM3.out]; exact hlen
          go_wp2
          go_ret
          exact ⟨_, _, _, rfl, L, hr1, HOK, hlen'⟩
end Go.Proofs.Ytpogpehbkgjiaaa
