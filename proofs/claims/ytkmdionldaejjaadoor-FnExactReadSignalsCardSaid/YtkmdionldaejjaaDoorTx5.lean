/- Texts cut at a byte, by the model. -/
import Derived.Test.YtkmdionldaejjaaDoorTx4
import Derived.Test.YtkmdionldaejjaaDoorIv
namespace Go.Proofs.YtkmdionldaejjaaDoor
open Go.RowKit
set_option linter.unusedSimpArgs false
set_option linter.unusedVariables false

theorem append_str {w : World} {ops : Array Oper} {rest : List Oper} {o : Oper} {a : Act} {Q : Exit → Act → World → Prop} (hgd : o.guard = none) (s x : Operand)
    (ho : o.op = .call { callee := .builtin .append, args := #[s, x], argTypes := #[65, 65] })
    (B : Nat) (v : Value) (zs : List ByteArray) (z : ByteArray) (h : Nat) (hs : a.eval s = v) (hx : a.eval x = .slice (some ⟨h, 0, none⟩) 1 1)
    (hown : OwnT w B v zs) (hcell : w.cell? ⟨h, 0, none⟩ = some (.string z)) (hlen : zs.length ≤ 1099511627776) (hB : B ≤ w.heap.size)
    (hK : ∀ v' w', OwnT w' B v' (zs ++ [z]) → w.grownBy w' v.ownBlock → wpList Tryd.prog ops Q rest (a.put o.dst v') w') : wpList Tryd.prog ops Q (o :: rest) a w := by
  obtain ⟨i0, hi, hz0, hz1, hz2⟩ := info_parts Tryd_info_string
  refine wpList_append_own w hgd s x 65 ho B 9 i0 (.string ⟨#[]⟩) 1 16 Tryd.underlying65 hi hz0 hz1 hz2 rfl (by decide) v zs.length (zs.map Value.string) hs hown
    ⟨h, 0, none⟩ 1 1 [.string z] hx rfl ?_ ?_ (by unfold maxLen; omega) (by omega) hB ?_
  · intro j u hj
    match j, hj with
    | 0, hj => simp at hj; subst hj; simpa [Addr.add] using hcell
  · intro u hu; simp at hu; subst hu; rfl
  · intro v' w' h1 h2 _
    refine hK v' w' ?_ h2
    unfold OwnT
    simpa using h1
theorem OwnT.nil (w : World) (B : Nat) : OwnT w B (.slice none 0 0) [] := World.ownsRow_nil _ _ _ _
theorem OwnT.later {w w' : World} {B : Nat} {v : Value} {xs : List ByteArray} (h : OwnT w B v xs) (hb : Below w.heap.size w w') : OwnT w' B v xs := row_at h fun k hk => by
  rcases h.2 with ⟨rfl, -⟩ | ⟨g, cap, cur, rfl, -, hh, -⟩
  · cases hk
  · cases hk; exact hb.block g (Array.getElem?_eq_some_iff.1 hh).1
theorem OwnT.low {w : World} {B : Nat} {v : Value} {xs : List ByteArray} (h : OwnT w B v xs) : ∀ k, v.ownBlock = some k → B ≤ k := by
  rcases h.2 with ⟨rfl, -⟩ | ⟨g, cap, cur, rfl, hg, -⟩
  · intro k hk; cases hk
  · intro k hk; cases hk; exact hg
theorem OwnT.form {w : World} {B : Nat} {v : Value} {xs : List ByteArray} (h : OwnT w B v xs) (hne : xs ≠ []) : ∃ g cap, v = .slice (some ⟨g, 0, none⟩) xs.length cap ∧ B ≤ g ∧ g < w.heap.size ∧ xs.length ≤ cap ∧ cap ≤ maxLen := by
  rcases h.2 with ⟨-, h3⟩ | ⟨g, cap, cur, rfl, hg, hh, hc, hm, -⟩
  · exact absurd (List.length_eq_zero_iff.1 h3) hne
  · exact ⟨g, cap, rfl, hg, (Array.getElem?_eq_some_iff.1 hh).1, hc, hm⟩

def toB (l : List UInt8) : ByteArray := ⟨l.toArray⟩
theorem toB_data (l : List UInt8) : (toB l).data.toList = l := by simp [toB]
theorem toB_of (s : ByteArray) : toB s.data.toList = s := Lib.mk_data s
def wdB (b : UInt8) (s : ByteArray) : List ByteArray := (splW b s.data.toList).map toB
/-- What the loop has: pieces that are done; the pending one goes on. -/
def SpI (b : UInt8) (s : ByteArray) (out : List ByteArray) (from_ k : Nat) : Prop := splW b s.data.toList = out.map (·.data.toList) ++ attach ((s.data.toList.take k).drop from_) (splW b (s.data.toList.drop k))
theorem SpI.zero (b : UInt8) (s : ByteArray) : SpI b s [] 0 0 := by
  unfold SpI
  simp only [List.map_nil, List.nil_append, List.take_zero, List.drop_zero, List.drop_nil]
  rw [attach_nil _ (splW_ne b _)]
theorem SpI.hit {b : UInt8} {s : ByteArray} {out : List ByteArray} {f k : Nat} (h : SpI b s out f k) (hk : k < s.size) (hb : s[k] = b) : SpI b s (out ++ [s.extract f k]) (k + 1) (k + 1) := by
  unfold SpI at h ⊢
  have hl : k < s.data.toList.length := by simpa using hk
  rw [List.drop_eq_getElem_cons hl, byt_at s k hk, hb, splW_hit] at h
  rw [h]
  have e : (s.extract f k).data.toList = (s.data.toList.take k).drop f := by rw [Lib.extract_data, List.drop_take]
  have e2 : ((s.data.toList.take (k + 1)).drop (k + 1)) = [] := by simp
  rw [e2, attach_nil _ (splW_ne b _)]
  simp only [attach, List.append_nil, List.map_append, List.map_cons, List.map_nil, List.append_assoc, List.singleton_append, e]
theorem SpI.miss {b : UInt8} {s : ByteArray} {out : List ByteArray} {f k : Nat} (h : SpI b s out f k) (hf : f ≤ k) (hk : k < s.size) (hb : (s[k] == b) = false) : SpI b s out f (k + 1) := by
  unfold SpI at h ⊢
  have hl : k < s.data.toList.length := by simpa using hk
  rw [List.drop_eq_getElem_cons hl, byt_at s k hk, splW_miss hb] at h
  rw [h, attach_attach _ _ _ (splW_ne b _)]
  congr 2
  rw [byt_take s k hk, List.drop_append_of_le_length (by simp; omega)]
theorem SpI.end_ {b : UInt8} {s : ByteArray} {out : List ByteArray} {f : Nat} (h : SpI b s out f s.size) : wdB b s = out ++ [s.extract f s.size] := by
  unfold SpI at h
  unfold wdB
  rw [h]
  have e1 : s.data.toList.drop s.size = [] := by simp
  have e2 : s.data.toList.take s.size = s.data.toList := by rw [← byt_len, List.take_length]
  have e : toB (s.data.toList.drop f) = s.extract f s.size := by
    rw [← toB_of (s.extract f s.size), Lib.extract_data]
    congr 1
    rw [List.take_of_length_le (by simp)]
  rw [e1, e2]
  simp only [splW, attach, List.map_append, List.map_map, List.map_cons, List.map_nil, List.append_nil, e]
  congr 1
  have : (toB ∘ fun x : ByteArray => x.data.toList) = id := by funext x; exact toB_of x
  rw [this, List.map_id]

set_option maxRecDepth 100000 in
set_option maxHeartbeats 800000 in
theorem l1Split_any (s : ByteArray) (b : UInt8) (w : World) (hs : s.size ≤ 1073741824) :
    Calls Tryd.prog 38 #[.string s, .int .u8 b.toNat] w fun e w' => ∃ v, e = .returned v ∧ OwnT w' w.heap.size v (wdB b s) ∧ Below w.heap.size w w' := by
  go_enter Tryd.func38, Tryd.ntmps38
  go_wp2
  go_loopw [5, 6, 7] (fun u f i wr => ∃ (k f0 : Nat) (out : List ByteArray), k ≤ s.size ∧ f0 ≤ k ∧ i = .int .i64 k ∧ f = .int .i64 f0 ∧ OwnT wr w.heap.size u out ∧ out.length ≤ k ∧ Hid (SpI b s out f0 k) ∧ Below w.heap.size w wr) (fun u f i wr => s.size - (intOf i).toNat)
  case atStart => exact ⟨0, 0, [], Nat.zero_le _, Nat.le_refl _, rfl, rfl, OwnT.nil _ _, Nat.le_refl _, Lib.hid (SpI.zero b s), Below.refl _ _⟩
  case round =>
    obtain ⟨k, f0, out, hk, hf0, rfl, rfl, hown, hol, hsp, hbl⟩ := hrel
    have hsz := hbl.size
    by_cases hlt : k < s.size
    · cases hb : (s[k] == b) with
      | true =>
        have e : s[k] = b := by simpa using hb
        have hq : ((s[k].toNat : Int) == (b.toNat : Int)) = true := by rw [e]; simp
        have hsp' := Lib.hid (hsp.out.hit hlt e)
        clear e hb
        go_wp2_with (at_builtin; refine append_str rfl _ _ rfl w.heap.size _ out (s.extract f0 k) wr.heap.size rfl rfl (hown.later ((Below.refl _ _).alloc (Nat.le_refl _) _)) (new_cell _ _ _) (by omega) (by simp; omega) ?_; intro v1 w1 hown1 hg1)
        go_roundw
        case rel => exact ⟨k + 1, k + 1, _, by omega, Nat.le_refl _, by go_num, by go_num, hown1, by simp; omega, hsp', (hbl.alloc hsz _).grown hg1 (by simp; omega) (fun j hj => hown.low j hj)⟩
        case measure => simp [intOf]; omega
      | false =>
        have hne : ¬ s[k] = b := by simpa using hb
        have hq : ((s[k].toNat : Int) == (b.toNat : Int)) = false := by
          have : ¬ (s[k].toNat : Int) = (b.toNat : Int) := fun h => hne (UInt8.toNat_inj.1 (by omega))
          simpa using this
        have hsp' := Lib.hid (hsp.out.miss hf0 hlt hb)
        clear hne hb
        go_wp2
        go_roundw
        case rel => exact ⟨k + 1, f0, _, by omega, by omega, by go_num, rfl, hown, by omega, hsp', hbl⟩
        case measure => simp [intOf]; omega
    · obtain rfl : k = s.size := by omega
      have hend := Lib.hid hsp.out.end_
      go_wp2_with (at_builtin; refine append_str rfl _ _ rfl w.heap.size _ out (s.extract f0 s.size) wr.heap.size rfl rfl (hown.later ((Below.refl _ _).alloc (Nat.le_refl _) _)) (new_cell _ _ _) (by omega) (by simp; omega) ?_; intro v1 w1 hown1 hg1)
      go_ret
      exact ⟨_, rfl, by rw [hend.out]; exact hown1, (hbl.alloc hsz _).grown hg1 (by simp; omega) (fun j hj => hown.low j hj)⟩
end Go.Proofs.YtkmdionldaejjaaDoor
