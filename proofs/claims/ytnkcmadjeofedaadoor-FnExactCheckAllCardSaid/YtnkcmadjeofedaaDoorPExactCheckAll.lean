/-
  Proved: the exact law of CheckAll for every input, with the one package-level variable that the code reads (impl.inverses) tied to the program's text: the Go function 'laws.FnExactCheckAll' returns true, and each argument reads afterwards as it read before. No condition beyond the given card's own.
  The frame is the guide's, typed for these arguments; the walk is 'walk_FnExactCheckAll' of YtnkcmadjeofedaaDoorCDL.
-/
import Derived.Test.YtnkcmadjeofedaaDoorRows
import Derived.Test.YtnkcmadjeofedaaDoorTie
import Derived.Test.YtnkcmadjeofedaaDoorCards
import Derived.Test.YtnkcmadjeofedaaDoorCDL
import Derived.Test.YtnkcmadjeofedaaDoorOpJ
import Derived.WalkKit
import Derived.ProofKit
import Derived.OpenShut
import Derived.ShutString
import Derived.ChangeOld
import Derived.ChangeVars
import Derived.Below
import Derived.LaidMore
import Derived.LaidLaws
import Derived.LaidHandle
import Derived.JoinedOf
import Derived.Stop.Joined
import Derived.SevenTiedAt
namespace Go.Proofs.YtnkcmadjeofedaaDoor.fnExactCheckAll
open Go.ChangeShapes Go.WideShapes Go.ChangeAt Go.RowKit
open Go.ChangeMaps (open_string shut_string)
set_option linter.unusedVariables false

theorem own : ownKnob Tryd.prog.godebug = none := by kernel_rfl
theorem laidOut : laidOutB Tryd.prog = true := by kernel_rfl
theorem gInv : Tryd.prog.globalNamed "loop.example/g00940/impl.inverses" = some 0 := by kernel_rfl
theorem tInv : (Tryd.prog.globals[0]?).map (·.type) = some 41 := by kernel_rfl
theorem cellsA : Tryd.prog.cellsOf 41 = 61 := by kernel_rfl
theorem cellsI : Tryd.prog.cellsOf 3 = 1 := by kernel_rfl
def invCells : Array Value := (invs.map (Value.int .i64)).toArray
def invData {H : Type} : DataW H := .agg (invs.map fun n => .lit (.int .i64 n))
theorem laid_eq {H : Type} : (Rows.laid_loop_example_g00940_impl_inverses : DataW H) = invData := rfl

theorem cells_of_laid {W : World} (h : laidMetH Tryd.prog [("loop.example/g00940/impl.inverses", Rows.laid_loop_example_g00940_impl_inverses)] W) : W.var? Tryd.prog "loop.example/g00940/impl.inverses" = some invCells := by
  rw [MakeChecks.laidMetH_plain _ _ _ (by kernel_rfl)] at h
  obtain ⟨ps, ⟨g, t, cs, fuel, p, q, hg, ht, hvar, hd, _, _⟩, _⟩ := h
  obtain rfl := Option.some.inj (gInv.symm.trans hg)
  obtain rfl := Option.some.inj (tInv.symm.trans ht)
  rw [hvar]
  congr 1
  rw [laid_eq] at hd
  obtain ⟨xs, m, rfl, hx, hlen, hn, hel⟩ := DataW.trod_array Tryd.underlying41 hd
  rw [cellsA] at hlen
  simp only [Prod.mk.injEq, invData, DataW.agg.injEq] at hx
  obtain ⟨hx, -⟩ := hx
  have hl : cs.toList = invs.map (Value.int .i64) := by
    apply List.ext_getElem?
    intro i
    by_cases hi : i < 61
    · have e := hel i hi
      rw [cellsI, Nat.mul_one] at e
      have hxi : i < xs.length := by rw [hn]; exact hi
      rw [List.getElem?_eq_getElem hxi] at e
      obtain ⟨k, e1, e2, _⟩ := DataW.trod_int Tryd.underlying3 e
      have hm := congrArg (fun l => l[i]?) hx
      simp only [List.getElem?_map, List.getElem?_eq_getElem hxi, Option.map_some] at hm
      have hil : i < invs.length := hi
      rw [List.getElem?_eq_getElem hil] at hm
      simp only [Option.map_some, Option.some.injEq] at hm
      rw [e2] at hm
      simp only [DataW.lit.injEq, Lit.int.injEq, true_and] at hm
      have hci : i < cs.toList.length := by rw [hlen]; exact hi
      rw [List.drop_eq_getElem_cons hci] at e1
      simp at e1
      rw [List.getElem?_eq_getElem hci, List.getElem?_map, List.getElem?_eq_getElem hil]
      simp [e1, hm]
    · rw [List.getElem?_eq_none (by rw [hlen]; omega), List.getElem?_eq_none (by simp; have : invs.length = 61 := rfl; omega)]
  unfold invCells
  rw [← hl]
theorem tb_of_laid {W : World} (h : laidMetH Tryd.prog [("loop.example/g00940/impl.inverses", Rows.laid_loop_example_g00940_impl_inverses)] W) : Tb W := by
  have hv := cells_of_laid h
  have hc : ∀ i, i < 61 → W.cell? ⟨0, i, none⟩ = some (.int .i64 (nth invs i)) := fun i hi => by
    rw [World.var?_cell gInv hv i]
    have hil : i < invs.length := hi
    simp [invCells, nth, hil]
  exact ⟨World.block_lt_of_cell? W _ (hc 0 (by decide)), hc⟩
theorem reads_inv {H : Type} (enc : TypeId × Value → H) (W : World) (sp : Nat → Bool) : DataW.trod enc Tryd.prog W 0 sp true 3 41 invCells.toList = some (invData, []) := by kernel_rfl
theorem door_met (os : Os) (args : Array Value) : laidMetH Tryd.prog [("loop.example/g00940/impl.inverses", Rows.laid_loop_example_g00940_impl_inverses)] ((World.doorLaid Tryd.prog 400 os).forCall (fun _ _ => 0) ⟨#[], args, []⟩).memory :=
  laidMetH_of_parts3 (fuel := 8) (laidMet_of_run' 8 (by kernel_rfl) (by kernel_rfl)) (by kernel_rfl) (by kernel_rfl)

set_option maxRecDepth 100000 in
theorem lifted (os : Os) (started : os.Started) (H : Type) (enc : TypeId × Value → H) :
    ReturnsInHanded {} Tryd.checked os 4 .any (fun w args => (Rows.fnExactCheckAllSpec.pre enc Tryd.prog Tryd.f4 [] false w args ∧ laidMetH Tryd.prog [("loop.example/g00940/impl.inverses", Rows.laid_loop_example_g00940_impl_inverses)] w) ∧ sizedMet enc Tryd.prog Tryd.f4 (OpenSpec.ofChange Rows.fnExactCheckAllSpec) false w args)
      (Rows.fnExactCheckAllSpec.post enc Tryd.prog Tryd.f4 false true false false) := by
  refine returnsInHanded_of_change_and (C := Tryd.checked) (X := fun w _ => laidMetH Tryd.prog [("loop.example/g00940/impl.inverses", Rows.laid_loop_example_g00940_impl_inverses)] w) (fun _ _ _ hh h => h.of_heap hh) own started (by kernel_rfl) Tryd.func4
    (ChangeSpec.witness_shaped (enc := enc) (C := Tryd.checked) (os := os) (X := fun w _ => laidMetH Tryd.prog [("loop.example/g00940/impl.inverses", Rows.laid_loop_example_g00940_impl_inverses)] w) false (World.doorLaid Tryd.prog 400 os) #[.slice none 0 0] 8 rfl (World.shaped_of_RefB (by kernel_rfl) (by kernel_rfl)) (by kernel_rfl) (by kernel_rfl) (by kernel_rfl) (door_met os _)) ?_
  intro W base args ds gs before hval0 hW _ _ hL _
  have hval : ∀ (j : Nat) t v, Tryd.f4.params[j]? = some t → args[j]? = some v → Value.okWide Tryd.prog W .any base t v := hval0
  have hW' := hW
  obtain ⟨p, q, hA0, hV0, rfl, hfz, hnd⟩ := hW
  have hA : DataW.TrodAll enc Tryd.prog W 0 (fun _ => true) true Tryd.f4.params.toList args.toList ds p := hA0
  have hV : DataW.TrodVars enc Tryd.prog W (fun _ => true) ["loop.example/g00940/impl.inverses"] gs q := hV0
  rw [Tryd.params4] at hA hval
  obtain ⟨v0, vs0, d0, ds0, p0, q0, hargs, rfl, rfl, h0, r0⟩ := trodAll_cons hA
  obtain ⟨rfl, rfl, rfl⟩ := trodAll_nil r0
  obtain rfl : args = #[v0] := by cases args; simp_all
  obtain ⟨g, t, cs, fuel, d, p', rfl, hg, ht, hvar, hd, rfl⟩ := trodVars_one hV
  obtain rfl := Option.some.inj (gInv.symm.trans hg)
  obtain rfl := Option.some.inj (tInv.symm.trans ht)
  obtain rfl : cs = invCells := Option.some.inj (hvar.symm.trans (cells_of_laid hL))
  obtain ⟨rfl, rfl⟩ := DataW.Trod.unique (v := .agg invCells) ⟨fuel, hd⟩ ⟨3, reads_inv enc W _⟩
  have hT := tb_of_laid hL
  have k0 := h0
  have lt0 : ∀ x ∈ p0, x.block < W.heap.size := by obtain ⟨m, hm⟩ := k0; exact DataW.trod_lt m _ _ _ hm
  obtain ⟨L0, w0⟩ := open_lists (hval 0 29 v0 rfl rfl) h0
  clear hA0 hV0 hval0
  refine (walk_FnExactCheckAll v0 L0 W w0 hT).mono fun e W' ⟨he, bel⟩ => ?_
  subst he
  have hvar' : W'.var? Tryd.prog "loop.example/g00940/impl.inverses" = some invCells := by
    unfold World.var? at hvar ⊢
    simp only [gInv, Option.bind_some] at hvar ⊢
    rw [bel.block 0 hT.1]
    exact hvar
  have hvars : ∀ sp : Nat → Bool, DataW.TrodVars enc Tryd.prog W' sp ["loop.example/g00940/impl.inverses"] [invData] (MemPlace.row ⟨0, 0, none⟩ invCells.size ++ [] ++ []) := fun sp =>
    ⟨0, 41, invCells, 3, [], [], hg, ht, hvar', reads_inv enc W' sp, rfl, rfl⟩
  exact ⟨_, rfl, _, _, _, [], _, _, hW', trodAll_mk1 (shut_bool Tryd.underlying4 _), (trodAll_cons_mk (Below.trod laidOut (by kernel_rfl) (of_decide_eq_true (by kernel_rfl)) k0 bel lt0) trodAll_mk0), hvars _, bel.frame _, fun h => by cases h⟩

theorem over : Rows.fnExactCheckAllRow.holds Tryd.pinned (OpenSpec.ofChange Rows.fnExactCheckAllSpec) :=
  OpenClaim.holds_of_wide 4 Tryd.f4 rfl rfl rfl rfl rfl rfl rfl ⟨rfl, rfl, rfl, rfl, rfl⟩ rfl rfl rfl rfl rfl (by kernel_rfl) Tryd.func4 (by kernel_rfl)
    (of_decide_eq_true (by kernel_rfl)) (by unfold Func.isWrapper; first | (rw [if_pos (by decide +kernel)]; kernel_rfl) | (rw [if_neg (by decide +kernel)]; exact ⟨rfl, rfl⟩))
    (fun os started H enc _ => lifted os started H enc)

theorem proved : Rows.FnExactCheckAllCardSaid :=
  Claim7.holds_tied_plain_at .later [] [.data] true (true, "8b2ecd18a7dc472560e7d9f6b2187a2f31bdeeb630ad8781bd5249bf6e9ebc42") false
    over (fun _ h => by cases h) (by kernel_rfl) (fun _ h => by cases h) fnExactCheckAll_row_tie rfl ⟨rfl, rfl⟩ (by kernel_rfl) rfl
    (fun f fn hf hfn => by
      obtain rfl : f = 4 := Option.some.inj ((show Tryd.prog.funcNamed "loop.example/g00940/laws.FnExactCheckAll" = some 4 by kernel_rfl).symm.trans hf) |>.symm
      obtain rfl : fn = Tryd.f4 := (Option.some.inj (Tryd.func4.symm.trans hfn)).symm
      exact ⟨by kernel_rfl, fun j t ht => by
        rw [Tryd.params4] at ht
        have hm : t ∈ [29] := by simpa using Array.mem_of_getElem? ht
        have hall : ([29].all fun u => !Tryd.prog.wantsStandIn u) = true := by kernel_rfl
        exact (show Tryd.prog.wantsStandIn t = false by simpa using List.all_eq_true.1 hall t hm)⟩)
    (by kernel_rfl)
#print axioms proved
end Go.Proofs.YtnkcmadjeofedaaDoor.fnExactCheckAll
