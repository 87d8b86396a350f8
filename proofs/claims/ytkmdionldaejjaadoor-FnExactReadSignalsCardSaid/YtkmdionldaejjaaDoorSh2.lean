/- What the rows that read texts give their walks. -/
import Derived.Test.YtkmdionldaejjaaDoorSh
namespace Go.Proofs.YtkmdionldaejjaaDoor
open Go.ChangeShapes Go.WideShapes Go.RowKit
set_option linter.unusedSimpArgs false
set_option linter.unusedVariables false

theorem t_pow : (Tryd.prog.globals[1]?).map (·.type) = some 122 := by kernel_rfl
theorem c_pow : Tryd.prog.cellsOf 122 = 20 := by kernel_rfl
theorem c_u64 : Tryd.prog.cellsOf 105 = 1 := by kernel_rfl
theorem g_syn : Tryd.prog.globalNamed "strconv.ErrSyntax" = some 2 := by kernel_rfl
theorem t_syn : (Tryd.prog.globals[2]?).map (·.type) = some 60 := by kernel_rfl
theorem g_rng : Tryd.prog.globalNamed "strconv.ErrRange" = some 3 := by kernel_rfl
theorem t_rng : (Tryd.prog.globals[3]?).map (·.type) = some 60 := by kernel_rfl
theorem pow_data : (Rows.laid_internal_strconv_uint64pow10 : DataW Unit) = Lib.tabData .u64 Lib.pow10Tab := by rfl
theorem tx_of_laid {W : World} (h : laidMetH Tryd.prog [("math/bits.deBruijn32tab", Rows.laid_math_bits_deBruijn32tab), ("math/bits.deBruijn64tab", Rows.laid_math_bits_deBruijn64tab), ("internal/strconv.uint64pow10", Rows.laid_internal_strconv_uint64pow10), ("unicode/utf8.acceptRanges", Rows.laid_unicode_utf8_acceptRanges), ("strconv.ErrRange", Rows.laid_strconv_ErrRange), ("strconv.ErrSyntax", Rows.laid_strconv_ErrSyntax), ("unicode/utf8.first", Rows.laid_unicode_utf8_first)] W) (hs : W.ShapedOpen Tryd.prog) : TxW W := by
  rw [MakeChecks.laidMetH_plain _ _ _ (by kernel_rfl)] at h
  obtain ⟨ps, h0, -⟩ := h
  obtain ⟨_, _, _, _, _, _, _, _, _, _, h1, _⟩ := h0
  obtain ⟨_, _, _, _, _, _, _, _, _, _, h2, _⟩ := h1
  obtain ⟨g2, t2, cs2, f2, p2, q2, hg2, ht2, hv2, hd2, h3, -⟩ := h2
  obtain ⟨_, _, _, _, _, _, _, _, _, _, h4, _⟩ := h3
  obtain ⟨g4, t4, cs4, f4, p4, q4, hg4, ht4, hv4, hd4, h5, -⟩ := h4
  obtain ⟨g5, t5, cs5, f5, p5, q5, hg5, ht5, hv5, hd5, -, -⟩ := h5
  obtain rfl := Option.some.inj (g_pow.symm.trans hg2)
  obtain rfl := Option.some.inj (t_pow.symm.trans ht2)
  obtain rfl := Option.some.inj (g_rng.symm.trans hg4)
  obtain rfl := Option.some.inj (t_rng.symm.trans ht4)
  obtain rfl := Option.some.inj (g_syn.symm.trans hg5)
  obtain rfl := Option.some.inj (t_syn.symm.trans ht5)
  refine ⟨Tryd.laysM147.s1_3 W hs, ?_, ?_, ?_⟩
  · obtain ⟨u, x, hc⟩ := iface_of_trod Tryd.underlying60 hd5
    refine ⟨u, x, ?_⟩
    have := World.var?_cell g_syn hv5 0
    rw [Array.eq_one_of_toList hc] at this
    simpa using this
  · obtain ⟨u, x, hc⟩ := iface_of_trod Tryd.underlying60 hd4
    refine ⟨u, x, ?_⟩
    have := World.var?_cell g_rng hv4 0
    rw [Array.eq_one_of_toList hc] at this
    simpa using this
  · rw [pow_data] at hd2
    unfold Lib.TabIs
    rw [hv2, ← Lib.cells_of_tab Tryd.underlying122 Tryd.underlying105 c_u64 c_pow hd2]
end Go.Proofs.YtkmdionldaejjaaDoor
