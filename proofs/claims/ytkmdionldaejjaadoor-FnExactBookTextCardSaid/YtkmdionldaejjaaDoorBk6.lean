/- Chapter 2: is it a book? The program's own check and the model's. -/
import Derived.Test.YtkmdionldaejjaaDoorBk5
import Derived.Deep.RegionHeld3
namespace Go.Proofs.YtkmdionldaejjaaDoor
open Go.RowKit
set_option linter.unusedSimpArgs false
set_option linter.unusedVariables false

theorem sigPos_cases (ps : List Ph) (l : List Int) : sigPos ps l = -1 ∨ (0 ≤ sigPos ps l ∧ sigPos ps l < ps.length ∧ sigPos ps l = sigIdx ps l) := by
  unfold sigPos
  by_cases h : sigIdx ps l < ps.length
  · rw [if_pos h]; exact .inr ⟨by omega, by omega, rfl⟩
  · rw [if_neg h]; exact .inl rfl
theorem sigPos_take_no {ps : List Ph} {k : Nat} (hk : k < ps.length) (h : sigPos (ps.take k) (phAt ps k).sig = -1) : sigIdx ps (phAt ps k).sig = k := by
  refine sigIdx_of hk rfl fun j hj e => ?_
  have hl : (ps.take k).length = k := by rw [List.length_take]; omega
  have h1 := sigIdx_lt (ps := ps.take k) (l := (phAt ps k).sig) (i := j) (by omega) (by rw [phAt_take hj]; exact e)
  unfold sigPos at h
  rw [if_pos (by omega)] at h
  omega
theorem sigPos_take_yes {ps : List Ph} {k : Nat} (hk : k < ps.length) (h : 0 ≤ sigPos (ps.take k) (phAt ps k).sig) : sigIdx ps (phAt ps k).sig ≠ k := by
  have hl : (ps.take k).length = k := by simp; omega
  rcases sigPos_cases (ps.take k) (phAt ps k).sig with h1 | ⟨-, h1, h2⟩
  · omega
  · have h3 : sigIdx (ps.take k) (phAt ps k).sig < (ps.take k).length := by omega
    have h4 := sigIdx_at h3
    rw [phAt_take (by omega)] at h4
    have := sigIdx_lt (ps := ps) (i := sigIdx (ps.take k) (phAt ps k).sig) (by omega) h4
    omega
theorem goodAt_yes {ps : List Ph} {k : Nat} (h1 : phB (phAt ps k).txt (phAt ps k).sig = true) (h2 : k = 0 ∨ lessB (phAt ps (k - 1)).txt (phAt ps k).txt = true) (h3 : sigIdx ps (phAt ps k).sig = k) : goodAt ps k = true := by
  unfold phB at h1
  unfold goodAt
  rw [h1, h3]
  rcases h2 with h2 | h2 <;> simp [h2]
theorem goodAt_no1 {ps : List Ph} {k : Nat} (h1 : phB (phAt ps k).txt (phAt ps k).sig = false) : goodAt ps k = false := by
  unfold phB at h1
  unfold goodAt
  rw [h1]; rfl
theorem goodAt_no2 {ps : List Ph} {k : Nat} (h : k ≠ 0) (h2 : lessB (phAt ps (k - 1)).txt (phAt ps k).txt = false) : goodAt ps k = false := by
  unfold goodAt
  have : (k == 0) = false := by simpa using h
  simp [this, h2]
theorem goodAt_no3 {ps : List Ph} {k : Nat} (h3 : sigIdx ps (phAt ps k).sig ≠ k) : goodAt ps k = false := by
  unfold goodAt
  have : (sigIdx ps (phAt ps k).sig == k) = false := by simpa using h3
  simp [this]
theorem bookB_no {ps : List Ph} {k : Nat} (hk : k < ps.length) (h : goodAt ps k = false) : bookB ps = false := by
  simp [bookB, goodTo_no hk h]
theorem bookB_small {ps : List Ph} (h : ps.length = 0) : bookB ps = false := by simp [bookB, h]
theorem bookB_big {ps : List Ph} (h : ¬ ps.length ≤ 40) : bookB ps = false := by simp [bookB, h]
theorem bookB_yes {ps : List Ph} (h1 : 1 ≤ ps.length) (h2 : ps.length ≤ 40) (h : ∀ j, j < ps.length → goodAt ps j = true) : bookB ps = true := by
  have : goodTo ps ps.length = true := by
    unfold goodTo
    rw [List.all_eq_true]
    intro x hx
    exact h x (by simpa using hx)
  simp [bookB, h1, h2, this]

set_option maxHeartbeats 1000000 in
theorem implIsBook_any (v : Value) (ps : List Ph) (w : World) (hr : RdPs w v ps) :
    Calls Tryd.prog 34 #[.agg #[v]] w fun e w' => e = .returned (.bool (bookB ps)) ∧ Below w.heap.size w w' := by
  have hm := hr.max
  obtain ⟨a, cap, rfl, hcap⟩ := hr.len
  obtain ⟨n, hn⟩ : ∃ n, n = ps.length := ⟨_, rfl⟩
  have HN := Lib.hid hn
  have HR := Lib.hid hr
  rw [← hn] at hm hcap ⊢
  clear hn hr
  by_cases h0 : n = 0
  · have hf : Hid (bookB ps = false) := Lib.hid (bookB_small (by rw [← HN.out]; exact h0))
    have hz : ((n : Int) == 0) = true := by simp [h0]
    clear h0
    go_enter Tryd.func34, Tryd.ntmps34
    go_wp2
    go_ret
    exact ⟨ret_bool hf.out.symm, (Below.refl _ _).alloc (Nat.le_refl _) _⟩
  · have hz : ((n : Int) == 0) = false := by simp [h0]
    have hn1 : 1 ≤ n := by omega
    clear h0
    by_cases h40 : n ≤ 40
    · go_enter Tryd.func34, Tryd.ntmps34
      go_wp2
      go_loopw [18] (fun i wr => ∃ k : Nat, k ≤ n ∧ i = .int .i64 k ∧ Below w.heap.size w wr ∧ wr.cell? ⟨w.heap.size, 0, none⟩ = some (.slice a n cap) ∧ w.heap.size < wr.heap.size ∧ Hid (∀ j, j < k → goodAt ps j = true)) (fun i wr => n - (intOf i).toNat)
      case atStart => exact ⟨0, Nat.zero_le _, rfl, (Below.refl _ _).alloc (Nat.le_refl _) _, by simp [go_sem], by simp, Lib.hid fun j hj => by omega⟩
      case round =>
        obtain ⟨k, hk, rfl, hbl, hbc, hbs, hall⟩ := hrel
        by_cases hlt : k < n
        · obtain ⟨g, off, u, rfl, hg, hts, hc0, hc1, hru⟩ := (HR.out.below hbl (Nat.le_refl _)).at_ (by rw [← HN.out]) k (by rw [← HN.out]; exact hlt)
          obtain ⟨ua, uc, rfl⟩ := hru.rd.len
          have hru := hru.rd.later ((Below.refl _ wr).alloc (Nat.le_refl _) (.cells #[.string (phAt ps k).txt, .slice ua (phAt ps k).sig.length uc] 58))
          have hbl := hbl.alloc hbl.size (.cells #[.string (phAt ps k).txt, .slice ua (phAt ps k).sig.length uc] 58)
          have hb1 : (wr.alloc (.cells #[.string (phAt ps k).txt, .slice ua (phAt ps k).sig.length uc] 58)).cell? ⟨w.heap.size, 0, none⟩ = some (.slice (some ⟨g, off, none⟩) n cap) := by rw [((Below.refl _ wr).alloc (Nat.le_refl _) _).cell (p := ⟨w.heap.size, 0, none⟩) hbs]; exact hbc
          have hx0 : (wr.alloc (.cells #[.string (phAt ps k).txt, .slice ua (phAt ps k).sig.length uc] 58)).cell? ⟨wr.heap.size, 0, none⟩ = some (.string (phAt ps k).txt) := by simp [go_sem]
          have hx1 : (wr.alloc (.cells #[.string (phAt ps k).txt, .slice ua (phAt ps k).sig.length uc] 58)).cell? ⟨wr.heap.size, 1, none⟩ = some (.slice ua (phAt ps k).sig.length uc) := by simp [go_sem]
          have hsz : (wr.alloc (.cells #[.string (phAt ps k).txt, .slice ua (phAt ps k).sig.length uc] 58)).heap.size = wr.heap.size + 1 := by simp
          go_wp2
          generalize wr.alloc (.cells #[.string (phAt ps k).txt, .slice ua (phAt ps k).sig.length uc] 58) = W at *
          generalize wr.heap.size = B at *
          have hBW : B < W.heap.size := by omega
          have hAW : w.heap.size < W.heap.size := by omega
          clear hsz
          have hkc : k ≤ cap := by omega
          have hruD := hru.later (Below.refl _ W).drew
          have hblD := hbl.drew
          have hrpD : RdPs W.drew (.slice (some ⟨g, off, none⟩) k cap) (ps.take k) := ((HR.out.below hblD (Nat.le_refl _)).take k (by rw [← HN.out]; exact hk))
          have k1 : ∀ {w1 : World}, Below W.drew.heap.size W.drew w1 → w1.cell? ⟨w.heap.size, 0, none⟩ = some (.slice (some ⟨g, off, none⟩) n cap) ∧ w1.cell? ⟨B, 0, none⟩ = some (.string (phAt ps k).txt) ∧ w1.cell? ⟨B, 1, none⟩ = some (.slice ua (phAt ps k).sig.length uc) := fun {w1} h =>
            ⟨by rw [h.cell (p := ⟨w.heap.size, 0, none⟩) hAW]; exact hb1, by rw [h.cell (p := ⟨B, 0, none⟩) hBW]; exact hx0, by rw [h.cell (p := ⟨B, 1, none⟩) hBW]; exact hx1⟩
          have K1 : Hid (∀ w1 : World, Below W.drew.heap.size W.drew w1 → w1.cell? ⟨w.heap.size, 0, none⟩ = some (.slice (some ⟨g, off, none⟩) n cap) ∧ w1.cell? ⟨B, 0, none⟩ = some (.string (phAt ps k).txt) ∧ w1.cell? ⟨B, 1, none⟩ = some (.slice ua (phAt ps k).sig.length uc)) := Lib.hid fun w1 h => k1 h
          clear k1
          cases hp : phB (phAt ps k).txt (phAt ps k).sig with
          | true =>
            rcases sigPos_cases (ps.take k) (phAt ps k).sig with hq | ⟨hq0, -, -⟩
            · have HI : Hid (sigIdx ps (phAt ps k).sig = k) := Lib.hid (sigPos_take_no (by rw [← HN.out]; exact hlt) hq)
              go_region_held3 (fun w' => w'.cell? ⟨w.heap.size, 0, none⟩ = some (.slice (some ⟨g, off, none⟩) n cap) ∧ w'.cell? ⟨B, 0, none⟩ = some (.string (phAt ps k).txt) ∧ w'.cell? ⟨B, 1, none⟩ = some (.slice ua (phAt ps k).sig.length uc))
                (first | go_keep | exact K1.out _ hb2 | exact K1.out _ hb3)
                (first | (go_at_call 57; refine (isPhrase_any _ _ (phAt ps k).sig W.drew hts hruD).mono ?_; rintro e w1 ⟨rfl, hb2⟩) | (go_at_call 58; refine (indexOfSignals_any _ _ (ps.take k) (phAt ps k).sig _ (hrpD.later hb2) (hruD.later hb2)).mono ?_; rintro e w2 ⟨rfl, hb3'⟩; have hb3 := hb2.trans (hb3'.mono hb2.size)))
              obtain ⟨s0, s1, s2⟩ := K1.out _ hb3
              have hbl2 := hblD.trans (hb3.mono hblD.size)
              have hsz2 : w.heap.size < w2.heap.size := by have := hb3.size; exact Nat.lt_of_lt_of_le hAW this
              rcases Nat.eq_zero_or_pos k with rfl | hpos
              · have hga : Hid (∀ j, j < 0 + 1 → goodAt ps j = true) := Lib.hid fun j hj => by
                  obtain rfl : j = 0 := by omega
                  exact goodAt_yes hp (.inl rfl) HI.out
                go_wp2
                go_quiet (fail)
                go_wp2
                go_roundw
                case rel => exact ⟨0 + 1, by omega, by go_num, below_drewN hbl2 _, by simpa using s0, by simpa using hsz2, hga⟩
                case measure => simp [intOf]; omega
              · obtain ⟨m, rfl⟩ : ∃ m, k = m + 1 := ⟨k - 1, by omega⟩
                obtain ⟨g', off', u', hge, -, -, hpc, -, -⟩ := (HR.out.below hbl2 (Nat.le_refl _)).at_ (by rw [← HN.out]) m (by rw [← HN.out]; omega)
                simp only [Option.some.injEq, Addr.mk.injEq, and_true] at hge
                obtain ⟨rfl, rfl⟩ := hge
                cases hls : Op.bytesLess (phAt ps m).txt.toList (phAt ps (m + 1)).txt.toList with
                | true =>
                  have hga : Hid (∀ j, j < m + 1 + 1 → goodAt ps j = true) := Lib.hid fun j hj => by
                    by_cases e : j = m + 1
                    · subst e; exact goodAt_yes hp (.inr hls) HI.out
                    · exact hall.out j (by omega)
                  go_wp2
                  go_quiet (fail)
                  go_wp2
                  go_roundw
                  case rel => exact ⟨m + 1 + 1, by omega, by go_num, below_drewN hbl2 _, by simpa using s0, by simpa using hsz2, hga⟩
                  case measure => simp [intOf]; omega
                | false =>
                  have hf : Hid (bookB ps = false) := Lib.hid (bookB_no (by rw [← HN.out]; exact hlt) (goodAt_no2 (k := m + 1) (by omega) hls))
                  go_wp2
                  go_quiet (fail)
                  go_wp2
                  go_ret
                  exact ⟨ret_bool hf.out.symm, below_drewN hbl2 _⟩
            · have hf : Hid (bookB ps = false) := Lib.hid (bookB_no (by rw [← HN.out]; exact hlt) (goodAt_no3 (sigPos_take_yes (by rw [← HN.out]; exact hlt) hq0)))
              go_region_held3 (fun w' => w'.cell? ⟨w.heap.size, 0, none⟩ = some (.slice (some ⟨g, off, none⟩) n cap) ∧ w'.cell? ⟨B, 0, none⟩ = some (.string (phAt ps k).txt) ∧ w'.cell? ⟨B, 1, none⟩ = some (.slice ua (phAt ps k).sig.length uc))
                (first | go_keep | exact K1.out _ hb2 | exact K1.out _ hb3)
                (first | (go_at_call 57; refine (isPhrase_any _ _ (phAt ps k).sig W.drew hts hruD).mono ?_; rintro e w1 ⟨rfl, hb2⟩) | (go_at_call 58; refine (indexOfSignals_any _ _ (ps.take k) (phAt ps k).sig _ (hrpD.later hb2) (hruD.later hb2)).mono ?_; rintro e w2 ⟨rfl, hb3'⟩; have hb3 := hb2.trans (hb3'.mono hb2.size)))
              go_wp2
              go_ret
              exact ⟨ret_bool hf.out.symm, hblD.trans (hb3.mono hblD.size)⟩
          | false =>
            have hf : Hid (bookB ps = false) := Lib.hid (bookB_no (by rw [← HN.out]; exact hlt) (goodAt_no1 hp))
            refine wp_region_held_drew (S := (fun w' => w'.cell? ⟨w.heap.size, 0, none⟩ = some (.slice (some ⟨g, off, none⟩) n cap) ∧ w'.cell? ⟨B, 0, none⟩ = some (.string (phAt ps k).txt) ∧ w'.cell? ⟨B, 1, none⟩ = some (.slice ua (phAt ps k).sig.length uc))) (by kernel_rfl) ?_ (fun hHeld => ?_)
            · exact K1.out _ (Below.refl _ _)
            refine wpAnyH_take (i := 0) (oi := { dst := some 23, op := Go.Op.load 58 (Go.Operand.tmp 4), type := 58, pos := "l2_book.go:44", after := #[], guard := none }) (v := ?_) rfl (by kernel_rfl) (by kernel_rfl) (by kernel_rfl) (fun _ _ _ h => h) (Or.inl ⟨by rfl, ?_⟩) (by assumption) ?_
            rotate_left
            · intro w hSw; (try dsimp only at hSw); go_simp; try with_reducible rfl
            try simp only [Act.put, List.setIfInBounds_toArray, List.set_cons_zero, List.set_cons_succ]
            refine wpAnyH_ready (rs := [1]) (by kernel_rfl) (by simp) ?_
            refine AllReadyH.cons (o := { dst := some 24, op := Go.Op.call { callee := Go.Callee.value (Go.Operand.func 57), args := #[Go.Operand.tmp 23], argTypes := #[58] }, type := 4, pos := "l2_book.go:44", after := #[{ on := 0, ground := Go.Ground.data }], guard := none }) rfl (fun K hK => ?_) AllReadyH.nil
            go_simp
            refine (isPhrase_any _ _ (phAt ps k).sig W.drew hts hruD).mono ?_
            rintro e w1 ⟨rfl, hb2⟩
            try go_simp
            refine hK.out _ _ ?_ (fun hHeld => ?_)
            · exact K1.out _ hb2
            clear hK K
            try simp only [Act.put, List.setIfInBounds_toArray, List.set_cons_zero, List.set_cons_succ]
            refine wpAnyH_take (i := 2) (oi := { dst := some 25, op := Go.Op.unOp Go.UnOp.not 4 (Go.Operand.tmp 24), type := 4, pos := "l2_book.go:44", after := #[{ on := 1, ground := Go.Ground.data }], guard := none }) (v := ?_) rfl (by kernel_rfl) (by kernel_rfl) (by kernel_rfl) (fun _ _ _ h => h) (Or.inl ⟨by rfl, ?_⟩) (by assumption) ?_
            rotate_left
            · intro w hSw; (try dsimp only at hSw); go_simp; try with_reducible rfl
            try simp only [Act.put, List.setIfInBounds_toArray, List.set_cons_zero, List.set_cons_succ]
            refine wpAnyH_take (i := 3) (oi := { dst := some 26, op := Go.Op.move (Go.Operand.tmp 25), type := 4, pos := "l2_book.go:44", after := #[{ on := 2, ground := Go.Ground.data }, { on := 1, ground := Go.Ground.chain }], guard := none }) (v := ?_) rfl (by kernel_rfl) (by kernel_rfl) (by kernel_rfl) (fun _ _ _ h => h) (Or.inl ⟨by rfl, ?_⟩) (by assumption) ?_
            rotate_left
            · intro w hSw; (try dsimp only at hSw); go_simp; try with_reducible rfl
            try simp only [Act.put, List.setIfInBounds_toArray, List.set_cons_zero, List.set_cons_succ]
            refine wpAnyH_take (i := 4) (oi := { dst := some 27, op := Go.Op.fieldAddr 39 (Go.Operand.tmp 1) 0, type := 0, pos := "l2_book.go:44", after := #[{ on := 3, ground := Go.Ground.guard }], guard := some (3, false) }) (v := undef) rfl (by kernel_rfl) (by kernel_rfl) (by kernel_rfl) (fun _ _ _ h => h) (Or.inr ⟨by rfl, rfl⟩) (by assumption) ?_
            try simp only [Act.put, List.setIfInBounds_toArray, List.set_cons_zero, List.set_cons_succ]
            refine wpAnyH_take (i := 5) (oi := { dst := some 28, op := Go.Op.load 37 (Go.Operand.tmp 27), type := 37, pos := "l2_book.go:44", after := #[{ on := 4, ground := Go.Ground.data }, { on := 3, ground := Go.Ground.guard }], guard := some (3, false) }) (v := undef) rfl (by kernel_rfl) (by kernel_rfl) (by kernel_rfl) (fun _ _ _ h => h) (Or.inr ⟨by rfl, rfl⟩) (by assumption) ?_
            try simp only [Act.put, List.setIfInBounds_toArray, List.set_cons_zero, List.set_cons_succ]
            refine wpAnyH_take (i := 6) (oi := { dst := some 29, op := Go.Op.move (Go.Operand.tmp 3), type := 3, pos := "l2_book.go:44", after := #[{ on := 3, ground := Go.Ground.guard }], guard := some (3, false) }) (v := undef) rfl (by kernel_rfl) (by kernel_rfl) (by kernel_rfl) (fun _ _ _ h => h) (Or.inr ⟨by rfl, rfl⟩) (by assumption) ?_
            try simp only [Act.put, List.setIfInBounds_toArray, List.set_cons_zero, List.set_cons_succ]
            refine wpAnyH_take (i := 7) (oi := { dst := some 30, op := Go.Op.slice 37 (Go.Operand.tmp 28) none (some (Go.Operand.tmp 29)) none, type := 37, pos := "l2_book.go:44", after := #[{ on := 5, ground := Go.Ground.data }, { on := 6, ground := Go.Ground.data }, { on := 3, ground := Go.Ground.guard }], guard := some (3, false) }) (v := undef) rfl (by kernel_rfl) (by kernel_rfl) (by kernel_rfl) (fun _ _ _ h => h) (Or.inr ⟨by rfl, rfl⟩) (by assumption) ?_
            try simp only [Act.put, List.setIfInBounds_toArray, List.set_cons_zero, List.set_cons_succ]
            refine wpAnyH_take (i := 8) (oi := { dst := some 31, op := Go.Op.fieldAddr 58 (Go.Operand.tmp 4) 1, type := 0, pos := "l2_book.go:44", after := #[{ on := 3, ground := Go.Ground.guard }], guard := some (3, false) }) (v := undef) rfl (by kernel_rfl) (by kernel_rfl) (by kernel_rfl) (fun _ _ _ h => h) (Or.inr ⟨by rfl, rfl⟩) (by assumption) ?_
            try simp only [Act.put, List.setIfInBounds_toArray, List.set_cons_zero, List.set_cons_succ]
            refine wpAnyH_take (i := 9) (oi := { dst := some 32, op := Go.Op.load 22 (Go.Operand.tmp 31), type := 22, pos := "l2_book.go:44", after := #[{ on := 8, ground := Go.Ground.data }, { on := 3, ground := Go.Ground.guard }], guard := some (3, false) }) (v := undef) rfl (by kernel_rfl) (by kernel_rfl) (by kernel_rfl) (fun _ _ _ h => h) (Or.inr ⟨by rfl, rfl⟩) (by assumption) ?_
            try simp only [Act.put, List.setIfInBounds_toArray, List.set_cons_zero, List.set_cons_succ]
            refine wpAnyH_take (i := 10) (oi := { dst := some 33, op := Go.Op.call { callee := Go.Callee.value (Go.Operand.func 58), args := #[Go.Operand.tmp 30, Go.Operand.tmp 32], argTypes := #[37, 22] }, type := 3, pos := "l2_book.go:44", after := #[{ on := 7, ground := Go.Ground.data }, { on := 9, ground := Go.Ground.data }, { on := 3, ground := Go.Ground.chain }, { on := 3, ground := Go.Ground.guard }], guard := some (3, false) }) (v := undef) rfl (by kernel_rfl) (by kernel_rfl) (by kernel_rfl) (fun _ _ _ h => h) (Or.inr ⟨by rfl, rfl⟩) (by assumption) ?_
            try simp only [Act.put, List.setIfInBounds_toArray, List.set_cons_zero, List.set_cons_succ]
            refine wpAnyH_take (i := 11) (oi := { dst := some 34, op := Go.Op.binOp Go.BinOp.geq 3 (Go.Operand.tmp 33) (Go.Operand.const (Go.Value.int Go.IntKind.i64 0)) 3, type := 4, pos := "l2_book.go:44", after := #[{ on := 10, ground := Go.Ground.data }, { on := 3, ground := Go.Ground.guard }], guard := some (3, false) }) (v := undef) rfl (by kernel_rfl) (by kernel_rfl) (by kernel_rfl) (fun _ _ _ h => h) (Or.inr ⟨by rfl, rfl⟩) (by assumption) ?_
            try simp only [Act.put, List.setIfInBounds_toArray, List.set_cons_zero, List.set_cons_succ]
            refine wpAnyH_take (i := 12) (oi := { dst := some 35, op := Go.Op.pick (Go.Operand.tmp 26) (Go.Operand.const (Go.Value.bool true)) (Go.Operand.tmp 34), type := 4, pos := "l2_book.go:44", after := #[{ on := 3, ground := Go.Ground.data }, { on := 11, ground := Go.Ground.data }], guard := none }) (v := ?_) rfl (by kernel_rfl) (by kernel_rfl) (by kernel_rfl) (fun _ _ _ h => h) (Or.inl ⟨by rfl, ?_⟩) (by assumption) ?_
            rotate_left
            · intro w hSw; (try dsimp only at hSw); go_simp; try with_reducible rfl
            try simp only [Act.put, List.setIfInBounds_toArray, List.set_cons_zero, List.set_cons_succ]
            refine wpAnyH_done (by kernel_rfl) ?_ _
            go_wp2
            go_ret
            exact ⟨ret_bool hf.out.symm, hblD.trans (hb2.mono hblD.size)⟩
        · have hf : Hid (bookB ps = true) := Lib.hid (bookB_yes (by rw [← HN.out]; exact hn1) (by rw [← HN.out]; exact h40) fun j hj => hall.out j (by rw [← HN.out] at hj; omega))
          go_wp2
          go_ret
          exact ⟨ret_bool hf.out.symm, hbl⟩
    · have hf : Hid (bookB ps = false) := Lib.hid (bookB_big (by rw [← HN.out]; exact h40))
      go_enter Tryd.func34, Tryd.ntmps34
      go_wp2
      go_ret
      exact ⟨ret_bool hf.out.symm, (Below.refl _ _).alloc (Nat.le_refl _) _⟩
end Go.Proofs.YtkmdionldaejjaaDoor
