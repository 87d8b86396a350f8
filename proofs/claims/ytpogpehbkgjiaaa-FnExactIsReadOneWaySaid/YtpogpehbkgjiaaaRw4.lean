/- Chapter 2: read in one way, by the program: the loops. -/
import Derived.Test.YtpogpehbkgjiaaaRw3
namespace Go.Proofs.Ytpogpehbkgjiaaa
open Go.RowKit
set_option linter.unusedSimpArgs false
set_option linter.unusedVariables false

theorem sigB_3 {zs : List Int} (h : sigB zs = true) : zs.length ≤ 3 := by
  simp [sigB] at h; exact h.1.2
theorem cell_blk {w : World} {b j : Nat} {cs : Array Value} {T : TypeId} {fr : Nat × Nat} (h : w.heap[b]? = some (.cells cs T fr)) : w.cell? ⟨b, j, none⟩ = cs[j]? := Lib.cell_of_heap h j
theorem Row_lt {f : Bool} {w0 w : World} {B g n c : Nat} {L : List (List Int)} (h : Rows f w0 w B (.slice (some ⟨g, 0, none⟩) n c) L) : g < w.heap.size := by
  obtain ⟨-, -, -, us, h1, -⟩ := h
  exact (h1.lt g rfl).2
theorem lt_blk {w : World} {b : Nat} {o : Obj} (h : w.heap[b]? = some o) : b < w.heap.size := (Array.getElem?_eq_some_iff.1 h).1

set_option maxRecDepth 100000 in
set_option maxHeartbeats 2000000 in
theorem hasTwo_any (v : Value) (ps : List Ph) (w : World) (hb : bookB ps = true) (hr : RdPs w v ps) :
    Calls Try.prog 78 #[v] w fun e w' => e = .returned (.bool (!oneB ps)) ∧ Below w.heap.size w w' := by
  have hmf : ∀ (fn : Fn) (first cap : Array Value) (w : World), (Instr.makeFunc fn first cap).run Try.prog w = .ok (.func fn first cap) w := fun _ _ _ _ => rfl
  have hn40 := (bookB_len hb).2
  have HS3 : Hid (∀ i, i < ps.length → (sg ps i).length ≤ 3) := Lib.hid fun i hi => sigB_3 (goodAt_sig (bookB_at hb hi))
  obtain ⟨a, cap, rfl, -⟩ := hr.len
  obtain ⟨n, hn⟩ : ∃ n, n = ps.length := ⟨_, rfl⟩
  have HN := Lib.hid hn
  have HR := Lib.hid hr
  have HB := Lib.hid hb
  rw [← hn] at hn40 HR ⊢
  clear hn hr hb
  have hb0 := (Below.refl w.heap.size w).alloc (Nat.le_refl _) (.cells #[.slice none 0 0] 84)
  have hk0 : (w.alloc (.cells #[.slice none 0 0] 84)).heap[w.heap.size]? = some (.cells #[.slice none 0 0] 84 (0, 0)) := heap_alloc_new w _
  have hr0 : Rows false w (w.alloc (.cells #[.slice none 0 0] 84)) w.heap.size (.slice none 0 0) [] := Rows.nil hb0 (Nat.le_refl _) (by simp)
  go_enter Try.func78, Try.ntmps78
  go_wp2
  generalize w.alloc (.cells #[.slice none 0 0] 84) = W at *
  go_loopw [19] (fun s wr => ∃ (i : Nat) (L : List (List Int)) (vL : Value), i ≤ n ∧ s = .int .i64 i ∧ wr.heap[w.heap.size]? = some (.cells #[vL] 84 (0, 0)) ∧ Rows false w wr w.heap.size vL L ∧ Hid (Nt ps L) ∧ Hid (Pairs ps L i 0)) (fun s wr => n - (intOf s).toNat)
  case atStart => exact ⟨0, [], _, Nat.zero_le _, rfl, hk0, hr0, Lib.hid ⟨Good.nil ps, fun r h => by simp at h⟩, Lib.hid fun m j h1 h2 h3 h4 => by omega⟩
  case round =>
    obtain ⟨i, L, vL, hi, rfl, hk1, hr1, hnt, hpr⟩ := hrel
    by_cases hlt : i < n
    · obtain ⟨g, off, ua, uc, rfl, hts, hd0, hd1, hru⟩ := HR.out.old HN.out i hlt hr1.below
      have HU := Lib.hid hru
      have hbx := (Below.refl wr.heap.size wr).alloc (Nat.le_refl _) (.cells #[.string (phAt ps i).txt, .slice ua (phAt ps i).sig.length uc] 65)
      have hx1 : (wr.alloc (.cells #[.string (phAt ps i).txt, .slice ua (phAt ps i).sig.length uc] 65)).heap[wr.heap.size]? = some (.cells #[.string (phAt ps i).txt, .slice ua (phAt ps i).sig.length uc] 65 (0, 0)) := heap_alloc_new wr _
      have hk2 : (wr.alloc (.cells #[.string (phAt ps i).txt, .slice ua (phAt ps i).sig.length uc] 65)).heap[w.heap.size]? = some (.cells #[vL] 84 (0, 0)) := (Lib.alloc_old wr _ _ (lt_blk hk1)).trans hk1
      have hr2 := hr1.later hbx
      have hne2 : wr.heap.size ≠ w.heap.size := by have := lt_blk hk1; omega
      clear hru
      go_wp2
      generalize wr.alloc (.cells #[.string (phAt ps i).txt, .slice ua (phAt ps i).sig.length uc] 65) = W2 at *
      generalize wr.heap.size = B2 at *
      clear hd0 hd1 hk1 hr1
      go_loopw [25] (fun s wr => ∃ (j : Nat) (L : List (List Int)) (vL : Value), j ≤ n ∧ s = .int .i64 j ∧ wr.heap[w.heap.size]? = some (.cells #[vL] 84 (0, 0)) ∧ wr.heap[B2]? = some (.cells #[.string (phAt ps i).txt, .slice ua (phAt ps i).sig.length uc] 65 (0, 0)) ∧ Rows false w wr w.heap.size vL L ∧ Hid (Nt ps L) ∧ Hid (Pairs ps L i j)) (fun s wr => n - (intOf s).toNat)
      case atStart => exact ⟨0, L, vL, Nat.zero_le _, rfl, hk2, hx1, hr2, hnt, hpr⟩
      case round =>
        clear hk2 hx1 hr2 hnt hpr
        obtain ⟨j, L, vL, hj, rfl, hk2, hx2, hr2, hnt, hpr⟩ := hrel
        by_cases hltj : j < n
        · obtain ⟨g', off', ua2, uc2, hge, hts2, hd0, hd1, hru2⟩ := HR.out.old HN.out j hltj hr2.below
          simp only [Option.some.injEq, Addr.mk.injEq, and_true] at hge
          obtain ⟨rfl, rfl⟩ := hge
          have HU2 := Lib.hid hru2
          have hby := (Below.refl wr.heap.size wr).alloc (Nat.le_refl _) (.cells #[.string (phAt ps j).txt, .slice ua2 (phAt ps j).sig.length uc2] 65)
          have y1 : (wr.alloc (.cells #[.string (phAt ps j).txt, .slice ua2 (phAt ps j).sig.length uc2] 65)).cell? ⟨wr.heap.size, 1, none⟩ = some (.slice ua2 (phAt ps j).sig.length uc2) := by simp [go_sem]
          have x1 : (wr.alloc (.cells #[.string (phAt ps j).txt, .slice ua2 (phAt ps j).sig.length uc2] 65)).cell? ⟨B2, 1, none⟩ = some (.slice ua (phAt ps i).sig.length uc) := by rw [hby.cell (p := ⟨B2, 1, none⟩) (lt_blk hx2), cell_blk hx2]; rfl
          have K3 : Hid ((wr.alloc (.cells #[.string (phAt ps j).txt, .slice ua2 (phAt ps j).sig.length uc2] 65)).heap[w.heap.size]? = some (.cells #[vL] 84 (0, 0))) := Lib.hid ((Lib.alloc_old wr _ _ (lt_blk hk2)).trans hk2)
          have X3 : Hid ((wr.alloc (.cells #[.string (phAt ps j).txt, .slice ua2 (phAt ps j).sig.length uc2] 65)).heap[B2]? = some (.cells #[.string (phAt ps i).txt, .slice ua (phAt ps i).sig.length uc] 65 (0, 0))) := Lib.hid ((Lib.alloc_old wr _ _ (lt_blk hx2)).trans hx2)
          have R3 := Lib.hid (hr2.later hby)
          have hkp : (kindOf (sg ps i) (sg ps j) == 1) = preB ps i j := kind_pre HB.out (by rw [← HN.out]; exact hlt) (by rw [← HN.out]; exact hltj)
          obtain ⟨kk, hkk⟩ : ∃ kk, kindOf (sg ps i) (sg ps j) = kk := ⟨_, rfl⟩
          obtain ⟨rr, hrr⟩ : ∃ rr, restOf (sg ps i) (sg ps j) = rr := ⟨_, rfl⟩
          have HKK := Lib.hid hkk
          have HRR := Lib.hid hrr
          rw [hkk] at hkp
          clear hru2 hk2 hx2 hr2 hkk hrr
          cases hp : preB ps i j with
          | true =>
            rw [hp] at hkp
            have hkp1 : kk = 1 := by simpa using hkp
            have HK1 := kind1 (HKK.out.trans hkp1)
            have HPR : Hid (Pairs ps (putL L rr) i (j + 1)) := Lib.hid ((hpr.out.more fun x hx => mem_putL.2 (.inl hx)).step fun _ => mem_putL.2 (.inr (by rw [← HRR.out, HK1.2.2])))
            have HNT : Hid (Nt ps (putL L rr)) := Lib.hid (by
              rw [← HRR.out, HK1.2.2]
              exact hnt.out.put ((rch_closed ps).1 i j (by rw [← HN.out]; exact hlt) (by rw [← HN.out]; exact hltj) hp) (suf_pair (by rw [← HN.out]; exact hltj) hp) (drop_ne HK1.2.1))
            have HLL : Hid (L.length ≤ 1048000) := Lib.hid (by have h1 := hnt.out.good.len HS3.out; rw [← HN.out] at h1; omega)
            clear hp HK1 hkp
            subst hkp1
            go_wp2_with fail
            generalize wr.alloc (.cells #[.string (phAt ps j).txt, .slice ua2 (phAt ps j).sig.length uc2] 65) = W3 at *
            refine (whichLow_is w _ _ (sg ps i) (sg ps j) rr 1 W3 HKK.out HRR.out R3.out.below HU.out HU2.out).mono ?_
            rintro e w4 ⟨ar, mr, cr, rfl, hrd, hb4⟩
            have K4 := Lib.hid ((hb4.block _ (lt_blk K3.out)).trans K3.out)
            have X4 := Lib.hid ((hb4.block _ (lt_blk X3.out)).trans X3.out)
            have R4 := Lib.hid (R3.out.later hb4)
            clear x1 y1
            go_wp2_with fail
            refine (note_any w w.heap.size w.heap.size vL _ L rr w4 HLL.out (Nat.le_refl _) K4.out R4.out hrd.out).mono ?_
            rintro e w5 ⟨rfl, v5, hk5, hr5, hs5, hfr5⟩
            have hx5 := (hfr5 B2 (lt_blk X4.out) hne2 (R4.out.apart (by decide) X4.out)).trans X4.out
            clear hfr5
            go_wp2
            go_roundw
            case rel => exact ⟨j + 1, putL L rr, v5, by omega, by go_num, hk5, hx5, hr5, HNT, HPR⟩
            case measure => simp [intOf]; omega
          | false =>
            rw [hp] at hkp
            have hkn : ¬ kk = 1 := by simpa using hkp
            have HPR : Hid (Pairs ps L i (j + 1)) := Lib.hid (hpr.out.step fun h => by rw [hp] at h; cases h)
            clear hp hkp
            go_wp2_with fail
            generalize wr.alloc (.cells #[.string (phAt ps j).txt, .slice ua2 (phAt ps j).sig.length uc2] 65) = W3 at *
            refine (whichLow_is w _ _ (sg ps i) (sg ps j) rr kk W3 HKK.out HRR.out R3.out.below HU.out HU2.out).mono ?_
            rintro e w4 ⟨ar, mr, cr, rfl, hrd, hb4⟩
            have K4 := Lib.hid ((hb4.block _ (lt_blk K3.out)).trans K3.out)
            have X4 := Lib.hid ((hb4.block _ (lt_blk X3.out)).trans X3.out)
            have R4 := Lib.hid (R3.out.later hb4)
            have hbq : (kk == 1) = false := beq_eq_false_iff_ne.2 hkn
            clear x1 y1 hkn
            go_wp2
            go_roundw
            case rel => exact ⟨j + 1, L, vL, by omega, by go_num, K4.out, X4.out, R4.out, hnt, HPR⟩
            case measure => simp [intOf]; omega
        · obtain rfl : n = j := by omega
          have HPR : Hid (Pairs ps L (i + 1) 0) := Lib.hid (Pairs.next (by have := hpr.out; rw [HN.out] at this; exact this))
          go_wp2
          go_roundw
          case rel => exact ⟨i + 1, L, vL, by omega, by go_num, hk2, hr2, hnt, HPR⟩
          case measure => simp [intOf]; omega
    · obtain rfl : n = i := by omega
      have HPR : Hid (Pairs ps L ps.length 0) := Lib.hid (by have := hpr.out; rw [HN.out] at this; exact this)
      have HHA : Hid (Han ps L 0 0) := Lib.hid (Han.start ps L)
      go_wp2
      go_loopw [11] (fun s wr => ∃ (m : Nat) (L : List (List Int)) (vL : Value), m ≤ L.length ∧ s = .int .i64 m ∧ wr.heap[w.heap.size]? = some (.cells #[vL] 84 (0, 0)) ∧ Rows false w wr w.heap.size vL L ∧ Hid (Nt ps L) ∧ Hid (Pairs ps L ps.length 0) ∧ Hid (Han ps L m 0)) (fun s wr => 200 - (intOf s).toNat)
      case atStart => exact ⟨0, L, vL, Nat.zero_le _, rfl, hk1, hr1, hnt, HPR, HHA⟩
      case round =>
        clear hk1 hr1 hnt HPR HHA hpr hi hlt
        obtain ⟨m, L, vL, hm, rfl, hk1, hr1, hnt, hpr, hhan⟩ := hrel
        obtain ⟨av, nl, cv, rfl, hnl⟩ : ∃ av nl cv, vL = .slice av nl cv ∧ nl = L.length := by
          obtain ⟨x, y, h, -⟩ := hr1.len
          exact ⟨x, _, y, h, rfl⟩
        have HNL := Lib.hid hnl
        have hlen : nl ≤ 160 := by have h1 := hnt.out.good.len HS3.out; have h2 := HN.out; omega
        have cb : wr.cell? ⟨w.heap.size, 0, none⟩ = some (.slice av nl cv) := by rw [cell_blk hk1]; rfl
        rw [← hnl] at hm
        clear hnl
        by_cases hltm : m < nl
        · obtain ⟨aa, haa⟩ : ∃ aa, L[m]? = some aa := ⟨L[m]'(by rw [← HNL.out]; exact hltm), List.getElem?_eq_getElem (by rw [← HNL.out]; exact hltm)⟩
          have HAA := Lib.hid haa
          have hmI : (m : Int) < (nl : Int) := by omega
          have hml : m < L.length := by rw [← HNL.out]; exact hltm
          have HML := Lib.hid hml
          clear haa hml
          go_wp2
          go_loopw [52] (fun s wr => ∃ (j : Nat) (L : List (List Int)) (vL : Value), j ≤ n ∧ s = .int .i64 j ∧ wr.heap[w.heap.size]? = some (.cells #[vL] 84 (0, 0)) ∧ Rows false w wr w.heap.size vL L ∧ Hid (m < L.length) ∧ Hid (L[m]? = some aa) ∧ Hid (Nt ps L) ∧ Hid (Pairs ps L ps.length 0) ∧ Hid (Han ps L m j)) (fun s wr => n - (intOf s).toNat)
          case atStart => exact ⟨0, L, _, Nat.zero_le _, rfl, hk1, hr1, HML, HAA, hnt, hpr, hhan⟩
          case round =>
            clear hk1 hr1 hnt hpr hhan HML HAA HNL hlen cb hltm hmI hm
            obtain ⟨j, L, vL, hj, rfl, hk2, hr2, hml, haa, hnt, hpr, hhan⟩ := hrel
            by_cases hltj : j < n
            · obtain ⟨av, nl, cv, rfl, hnl⟩ : ∃ av nl cv, vL = .slice av nl cv ∧ nl = L.length := by
                obtain ⟨x, y, h, -⟩ := hr2.len
                exact ⟨x, _, y, h, rfl⟩
              have HNL := Lib.hid hnl
              have hlen : nl ≤ 160 := by have h1 := hnt.out.good.len HS3.out; have h2 := HN.out; omega
              have hltm : m < nl := by rw [hnl]; exact hml.out
              clear hnl
              obtain ⟨g2, u, hag, hcu, -, hu⟩ := hr2.at_ m hltm
              subst hag
              have hu0 : RdC w u aa := by
                rw [haa.out] at hu
                rcases hu with h | h
                · cases h.1
                · exact h
              obtain ⟨-, au, cu, rfl, hcau⟩ := id hu0
              obtain ⟨al, hal⟩ : ∃ al, al = aa.length := ⟨_, rfl⟩
              have HAL := Lib.hid hal
              rw [← hal] at hu0 hcu hu hcau
              have HU := Lib.hid hu0
              have hmI : (m : Int) < (nl : Int) := by omega
              obtain ⟨g, off, ua2, uc2, rfl, hts2, hd0, hd1, hru2⟩ := HR.out.old HN.out j hltj hr2.below
              obtain ⟨sl, hsl⟩ : ∃ sl, sl = (phAt ps j).sig.length := ⟨_, rfl⟩
              have HSL := Lib.hid hsl
              rw [← hsl] at hd1 hru2
              have HU2 := Lib.hid hru2
              have hby := (Below.refl wr.heap.size wr).alloc (Nat.le_refl _) (.cells #[.string (phAt ps j).txt, .slice ua2 sl uc2] 65)
              have y1 : (wr.alloc (.cells #[.string (phAt ps j).txt, .slice ua2 sl uc2] 65)).cell? ⟨wr.heap.size, 1, none⟩ = some (.slice ua2 sl uc2) := by simp [go_sem]
              have cb : (wr.alloc (.cells #[.string (phAt ps j).txt, .slice ua2 sl uc2] 65)).cell? ⟨w.heap.size, 0, none⟩ = some (.slice (some ⟨g2, 0, none⟩) nl cv) := by rw [hby.cell (p := ⟨w.heap.size, 0, none⟩) (lt_blk hk2), cell_blk hk2]; rfl
              have hg2 : g2 < wr.heap.size := Row_lt hr2
              have hcu2 : (wr.alloc (.cells #[.string (phAt ps j).txt, .slice ua2 sl uc2] 65)).cell? ⟨g2, m, none⟩ = some (.slice au al cu) := by rw [hby.cell (p := ⟨g2, m, none⟩) hg2]; exact hcu
              have K3 : Hid ((wr.alloc (.cells #[.string (phAt ps j).txt, .slice ua2 sl uc2] 65)).heap[w.heap.size]? = some (.cells #[.slice (some ⟨g2, 0, none⟩) nl cv] 84 (0, 0))) := Lib.hid ((Lib.alloc_old wr _ _ (lt_blk hk2)).trans hk2)
              have R3 := Lib.hid (hr2.later hby)
              have hs1 : w.heap.size < (wr.alloc (.cells #[.string (phAt ps j).txt, .slice ua2 sl uc2] 65)).heap.size := by have := lt_blk hk2; simp; omega
              have hs2 : wr.heap.size < (wr.alloc (.cells #[.string (phAt ps j).txt, .slice ua2 sl uc2] 65)).heap.size := by simp
              have hs3 : g2 < (wr.alloc (.cells #[.string (phAt ps j).txt, .slice ua2 sl uc2] 65)).heap.size := by simp; omega
              obtain ⟨rr, hrr⟩ : ∃ rr, restOf aa (sg ps j) = rr := ⟨_, rfl⟩
              have HRR := Lib.hid hrr
              have HLL : Hid (L.length ≤ 1048000) := Lib.hid (by have := HNL.out; omega)
              have HSUF : Hid (Suf ps aa) := Lib.hid (hnt.out.good.suf aa (List.mem_of_getElem? haa.out))
              have HRCH : Hid (Rch ps aa) := Lib.hid (hnt.out.good.rch aa (List.mem_of_getElem? haa.out))
              clear hu hu0 hcu hru2 hk2 hr2 hsl hal hrr hcau
              go_wp2
              generalize wr.alloc (.cells #[.string (phAt ps j).txt, .slice ua2 sl uc2] 65) = W3 at *
              generalize wr.heap.size = B3 at *
              have K1 : Hid (∀ w4 : World, Below W3.drew.heap.size W3.drew w4 → w4.cell? ⟨w.heap.size, 0, none⟩ = some (.slice (some ⟨g2, 0, none⟩) nl cv) ∧ w4.cell? ⟨g2, m, none⟩ = some (.slice au al cu) ∧ w4.cell? ⟨B3, 1, none⟩ = some (.slice ua2 sl uc2)) := Lib.hid fun w4 h =>
                ⟨by rw [h.cell (p := ⟨w.heap.size, 0, none⟩) (by simpa using hs1)]; simpa [go_sem] using cb, by rw [h.cell (p := ⟨g2, m, none⟩) (by simpa using hs3)]; simpa [go_sem] using hcu2, by rw [h.cell (p := ⟨B3, 1, none⟩) (by simpa using hs2)]; simpa [go_sem] using y1⟩
              obtain ⟨q1, q2, q3⟩ := K1.out W3.drew (Below.refl _ _)
              have RD := Lib.hid (R3.out.later (Below.refl W3.heap.size W3).drew)
              have KD : Hid (W3.drew.heap[w.heap.size]? = some (.cells #[.slice (some ⟨g2, 0, none⟩) nl cv] 84 (0, 0))) := K3
              rcases kind_in aa (sg ps j) with hkk | hkk | hkk | hkk
              · have HHA : Hid (Han ps L m (j + 1)) := Lib.hid (hhan.out.step hml.out haa.out (fun x hx => hx) (fun _ _ => rfl) (fun h => by rw [(kind0 hkk).1] at h; cases h) (fun h => by rw [(kind0 hkk).2] at h; cases h))
                go_region_held3 (fun w' => w'.cell? ⟨w.heap.size, 0, none⟩ = some (.slice (some ⟨g2, 0, none⟩) nl cv) ∧ w'.cell? ⟨g2, m, none⟩ = some (.slice au al cu) ∧ w'.cell? ⟨B3, 1, none⟩ = some (.slice ua2 sl uc2))
                  (first | go_keep | exact K1.out _ hb4)
                  ((go_at_call 96; refine (whichLow_is w _ _ aa (sg ps j) rr 0 W3.drew hkk HRR.out RD.out.below HU.out HU2.out).mono ?_; rintro e w4 ⟨ar, mr, cr, rfl, hrd, hb4⟩))
                have K4 := Lib.hid ((hb4.block _ (lt_blk KD.out)).trans KD.out)
                have R4 := Lib.hid (RD.out.later hb4)
                clear hkk
                go_wp2
                go_roundw
                case rel => exact ⟨j + 1, L, _, by omega, by go_num, K4.out, R4.out, hml, haa, hnt, hpr, HHA⟩
                case measure => simp [intOf]; omega
              · have HK1 := kind1 hkk
                have hrq : rr = (sg ps j).drop aa.length := HRR.out.symm.trans HK1.2.2
                have HNT : Hid (Nt ps (putL L rr)) := Lib.hid (by
                  rw [hrq]
                  exact hnt.out.put (((rch_closed ps).2 aa j HRCH.out (by rw [← HN.out]; exact hltj)).1 HK1.1) (suf_on (by rw [← HN.out]; exact hltj) HK1.1) (drop_ne HK1.2.1))
                have HHA : Hid (Han ps (putL L rr) m (j + 1)) := Lib.hid (hhan.out.step hml.out haa.out (fun x hx => mem_putL.2 (.inl hx)) (fun _ h => putL_get h) (fun h => mem_putL.2 (.inr hrq.symm)) (fun h => by have h1 := begs_len h; have h2 := HK1.2.1; omega))
                clear hrq HK1
                go_region_held3 (fun w' => w'.cell? ⟨w.heap.size, 0, none⟩ = some (.slice (some ⟨g2, 0, none⟩) nl cv) ∧ w'.cell? ⟨g2, m, none⟩ = some (.slice au al cu) ∧ w'.cell? ⟨B3, 1, none⟩ = some (.slice ua2 sl uc2))
                  (first | go_keep | exact K1.out _ hb4)
                  ((go_at_call 96; refine (whichLow_is w _ _ aa (sg ps j) rr 1 W3.drew hkk HRR.out RD.out.below HU.out HU2.out).mono ?_; rintro e w4 ⟨ar, mr, cr, rfl, hrd, hb4⟩))
                have K4 := Lib.hid ((hb4.block _ (lt_blk KD.out)).trans KD.out)
                have R4 := Lib.hid (RD.out.later hb4)
                clear hkk
                go_wp2_with fail
                refine (note_any w w.heap.size w.heap.size _ _ L rr w4 HLL.out (Nat.le_refl _) K4.out R4.out hrd.out).mono ?_
                rintro e w5 ⟨rfl, v5, hk5, hr5, hs5, -⟩
                go_wp2
                go_roundw
                case rel => exact ⟨j + 1, putL L rr, v5, by omega, by go_num, hk5, hr5, Lib.hid (Nat.lt_of_lt_of_le hml.out (putL_len L rr)), Lib.hid (by rw [putL_get hml.out]; exact haa.out), HNT, Lib.hid (hpr.out.more fun x hx => mem_putL.2 (.inl hx)), HHA⟩
                case measure => simp [intOf]; omega
              · have HK1 := kind2 hkk
                have hrq : rr = aa.drop (sg ps j).length := HRR.out.symm.trans HK1.2.2.2
                have HNT : Hid (Nt ps (putL L rr)) := Lib.hid (by
                  rw [hrq]
                  exact hnt.out.put (((rch_closed ps).2 aa j HRCH.out (by rw [← HN.out]; exact hltj)).2 HK1.2.1) (suf_off HSUF.out HK1.2.1) (drop_ne HK1.2.2.1))
                have HHA : Hid (Han ps (putL L rr) m (j + 1)) := Lib.hid (hhan.out.step hml.out haa.out (fun x hx => mem_putL.2 (.inl hx)) (fun _ h => putL_get h) (fun h => by rw [HK1.1] at h; cases h) (fun h => mem_putL.2 (.inr hrq.symm)))
                clear hrq HK1
                go_region_held3 (fun w' => w'.cell? ⟨w.heap.size, 0, none⟩ = some (.slice (some ⟨g2, 0, none⟩) nl cv) ∧ w'.cell? ⟨g2, m, none⟩ = some (.slice au al cu) ∧ w'.cell? ⟨B3, 1, none⟩ = some (.slice ua2 sl uc2))
                  (first | go_keep | exact K1.out _ hb4)
                  ((go_at_call 96; refine (whichLow_is w _ _ aa (sg ps j) rr 2 W3.drew hkk HRR.out RD.out.below HU.out HU2.out).mono ?_; rintro e w4 ⟨ar, mr, cr, rfl, hrd, hb4⟩))
                have K4 := Lib.hid ((hb4.block _ (lt_blk KD.out)).trans KD.out)
                have R4 := Lib.hid (RD.out.later hb4)
                clear hkk
                go_wp2_with fail
                refine (note_any w w.heap.size w.heap.size _ _ L rr w4 HLL.out (Nat.le_refl _) K4.out R4.out hrd.out).mono ?_
                rintro e w5 ⟨rfl, v5, hk5, hr5, hs5, -⟩
                go_wp2
                go_roundw
                case rel => exact ⟨j + 1, putL L rr, v5, by omega, by go_num, hk5, hr5, Lib.hid (Nat.lt_of_lt_of_le hml.out (putL_len L rr)), Lib.hid (by rw [putL_get hml.out]; exact haa.out), HNT, Lib.hid (hpr.out.more fun x hx => mem_putL.2 (.inl hx)), HHA⟩
                case measure => simp [intOf]; omega
              · have HK1 := kind3 hkk
                have HOK : Hid (oneB ps = false) := Lib.hid (oneB_no (by
                  have := ((rch_closed ps).2 aa j HRCH.out (by rw [← HN.out]; exact hltj)).1 HK1.1
                  rw [HK1.2, List.drop_length] at this
                  exact this))
                clear HK1
                go_region_held3 (fun w' => w'.cell? ⟨w.heap.size, 0, none⟩ = some (.slice (some ⟨g2, 0, none⟩) nl cv) ∧ w'.cell? ⟨g2, m, none⟩ = some (.slice au al cu) ∧ w'.cell? ⟨B3, 1, none⟩ = some (.slice ua2 sl uc2))
                  (first | go_keep | exact K1.out _ hb4)
                  ((go_at_call 96; refine (whichLow_is w _ _ aa (sg ps j) rr 3 W3.drew hkk HRR.out RD.out.below HU.out HU2.out).mono ?_; rintro e w4 ⟨ar, mr, cr, rfl, hrd, hb4⟩))
                have K4 := Lib.hid ((hb4.block _ (lt_blk KD.out)).trans KD.out)
                have R4 := Lib.hid (RD.out.later hb4)
                clear hkk
                go_wp2
                go_ret
                exact ⟨by rw [HOK.out]; rfl, R4.out.below⟩
            · obtain rfl : n = j := by omega
              have HPR : Hid (Han ps L (m + 1) 0) := Lib.hid (Han.next (by have := hhan.out; rw [HN.out] at this; exact this))
              have hm1 : m + 1 ≤ L.length := hml.out
              have hm2 : m ≤ 160 := by have h1 := hnt.out.good.len HS3.out; have h2 := HN.out; have h3 := hml.out; omega
              go_wp2
              go_roundw
              case rel => exact ⟨m + 1, L, vL, hm1, by go_num, hk2, hr2, hnt, hpr, HPR⟩
              case measure => simp [intOf]; omega
        · have HOK : Hid (oneB ps = true) := Lib.hid (oneB_yes (closed_all hpr.out (by have h1 := hhan.out; have h2 : m = L.length := (by rw [← HNL.out]; omega); rw [h2] at h1; exact h1)) fun h => hnt.out.ne _ h rfl)
          have hmI : ¬ ((m : Int) < (nl : Int)) := by omega
          go_wp2
          go_ret
          exact ⟨by rw [HOK.out]; rfl, hr1.below⟩
end Go.Proofs.Ytpogpehbkgjiaaa
