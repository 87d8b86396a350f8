/- Drawing sights from bytes: lists to draw from; the state of a sight that is drawn. -/
import Derived.Test.YtkdmjeonlghnjaaDr1
import Derived.Test.YtkdmjeonlghnjaaSi9
import Derived.Test.YtkdmjeonlghnjaaSiB
namespace Go.Proofs.Ytkdmjeonlghnjaa
open Go.RowKit
set_option linter.unusedSimpArgs false
set_option linter.unusedVariables false

theorem lst_cells (w : World) (L : List Int) (t : TypeId) (i : Nat) (hi : i < L.length) : (w.alloc (.cells (L.map (Value.int .i64)).toArray t)).cell? ⟨w.heap.size, i, none⟩ = some (.int .i64 (L[i]?.getD 0)) := by
  simp [go_sem, hi]
theorem among_list (p K : Nat) (L : List Int) (w : World) (h : Cur w p K) (hK : K ≤ 800000) (h1 : 1 ≤ L.length) (hm : L.length ≤ 60000) (t : TypeId) :
    Calls Try.prog 66 #[.pointer (some ⟨p, 0, none⟩), .slice (some ⟨w.heap.size, 0, none⟩) L.length L.length] (w.alloc (.cells (L.map (Value.int .i64)).toArray t)) fun e w' => ∃ z, z ∈ L ∧ e = .returned (.int .i64 z) ∧ Cur w' p (K + 2) ∧ Kp p (p + 1) w w' := by
  have al := (Below.refl w.heap.size w).alloc (Nat.le_refl _) (.cells (L.map (Value.int .i64)).toArray t)
  have hne : w.heap.size ≠ p := by have := h.lt; omega
  refine (among_any p K w.heap.size L.length L.length (fun i => L[i]?.getD 0) _ (h.later al) (by omega) h1 hm hne (by simp) (fun i hi => lst_cells w L t i hi)).mono ?_
  rintro e w' ⟨r, rfl, hr, hC, hk⟩
  exact ⟨_, by rw [List.getElem?_eq_getElem hr]; exact List.getElem_mem hr, rfl, hC, (Kp.of_below al).trans hk⟩
theorem Var4.kq {W W' : World} {b B C : Nat} {q0 q1 q2 q3 : Value} (h : Var4 W b q0 q1 q2 q3) (hk : Kp B C W W') (hx : b < B ∨ C ≤ b) : Var4 W' b q0 q1 q2 q3 :=
  ⟨Nat.lt_of_lt_of_le h.lt hk.size, by rw [World.cell?_of_block (a := ⟨b, 0, none⟩) (hk.block b h.lt hx)]; exact h.c0, by rw [World.cell?_of_block (a := ⟨b, 1, none⟩) (hk.block b h.lt hx)]; exact h.c1, by rw [World.cell?_of_block (a := ⟨b, 2, none⟩) (hk.block b h.lt hx)]; exact h.c2, by rw [World.cell?_of_block (a := ⟨b, 3, none⟩) (hk.block b h.lt hx)]; exact h.c3, fun j => by rw [World.frozen?_of_block (a := ⟨b, j, none⟩) (hk.block b h.lt hx)]; exact h.fz j⟩

/-- While a sight is drawn: the cursor, the answer's cell. -/
structure D0 (w W : World) (p K : Nat) : Prop where
  cur : Cur W p K
  kp : Kp p (p + 1) w W
  pw : p < w.heap.size
  res : Var4 W w.heap.size (.int .i64 0) (.int .i64 0) (.int .i64 0) (.slice none 0 0)
theorem D0.go {w W W' : World} {p K K' : Nat} (h : D0 w W p K) (hC : Cur W' p K') (hk : Kp p (p + 1) W W') : D0 w W' p K' :=
  ⟨hC, h.kp.trans hk, h.pw, h.res.kq hk (.inr h.pw)⟩
theorem D0.below {w W W' : World} {p K : Nat} (h : D0 w W p K) (hb : Below W.heap.size W W') : D0 w W' p K := h.go (h.cur.later hb) (Kp.of_below hb)
theorem D0.alloc {w W : World} {p K : Nat} (h : D0 w W p K) (o : Obj) : D0 w (W.alloc o) p K := h.below ((Below.refl _ _).alloc (Nat.le_refl _) o)
/-- And the sight itself, in block o. -/
structure DS (w W : World) (p K o : Nat) (D A B : Int) (u : Value) (ts : List T2) : Prop where
  d0 : D0 w W p K
  ob : w.heap.size < o
  var : Var4 W o (.int .i64 D) (.int .i64 A) (.int .i64 B) u
  row : OwnR 72 c2 2 W (o + 1) u ts
section
variable {w W W' : World} {p K K' o : Nat} {D A B : Int} {u : Value} {ts : List T2}
theorem DS.go (h : DS w W p K o D A B u ts) (hC : Cur W' p K') (hk : Kp p (p + 1) W W') : DS w W' p K' o D A B u ts :=
  have hp := h.d0.pw
  have ho := h.ob
  ⟨h.d0.go hC hk, h.ob, h.var.kq hk (.inr (by omega)), row_at h.row fun k hk' => hk.block k (h.row.lt k hk').2 (.inr (by have := (h.row.lt k hk').1; omega))⟩
theorem DS.below (h : DS w W p K o D A B u ts) (hb : Below W.heap.size W W') : DS w W' p K o D A B u ts := h.go (h.d0.cur.later hb) (Kp.of_below hb)
theorem DS.alloc (h : DS w W p K o D A B u ts) (x : Obj) : DS w (W.alloc x) p K o D A B u ts := h.below ((Below.refl _ _).alloc (Nat.le_refl _) x)
theorem DS.drew (h : DS w W p K o D A B u ts) : DS w W.drew p K o D A B u ts := h.below (Below.refl _ _).drew
theorem DS.more (h : DS w W p K o D A B u ts) (hK : K ≤ K') : DS w W p K' o D A B u ts := ⟨⟨h.d0.cur.more hK, h.d0.kp, h.d0.pw, h.d0.res⟩, h.ob, h.var, h.row⟩
theorem D0.hi (h : D0 w W p K) {C : Nat} (hC : w.heap.size < C) (hb : Below C W W') : D0 w W' p K :=
  have hp := h.pw
  ⟨h.cur.kp (B := C) ⟨hb.os, hb.tape, hb.output, hb.size, fun k hk hx => hb.block k (by rcases hx with hx | hx <;> omega)⟩ (by omega),
   ⟨hb.os.trans h.kp.os, hb.tape.trans h.kp.tape, hb.output.trans h.kp.output, Nat.le_trans h.kp.size hb.size, fun k hk hx => (hb.block k (by omega)).trans (h.kp.block k hk hx)⟩, h.pw, h.res.below hb hC⟩
end
/-- A list to draw from lies in block g. -/
structure LS (W : World) (g : Nat) (L : List Int) : Prop where
  lt : g < W.heap.size
  at_ : ∀ i, i < L.length → W.cell? ⟨g, i, none⟩ = some (.int .i64 (L[i]?.getD 0))
theorem LS.new (w : World) (L : List Int) (t : TypeId) : LS (w.alloc (.cells (L.map (Value.int .i64)).toArray t)) w.heap.size L := ⟨by simp, lst_cells w L t⟩
theorem LS.go {W W' : World} {g p : Nat} {L : List Int} (h : LS W g L) (hk : Kp p (p + 1) W W') (hp : g ≠ p) : LS W' g L :=
  ⟨Nat.lt_of_lt_of_le h.lt hk.size, fun i hi => by rw [World.cell?_of_block (a := ⟨g, i, none⟩) (hk.block g h.lt (by omega))]; exact h.at_ i hi⟩
theorem LS.below {W W' : World} {g : Nat} {L : List Int} (h : LS W g L) (hb : Below W.heap.size W W') : LS W' g L :=
  ⟨Nat.lt_of_lt_of_le h.lt hb.size, fun i hi => by rw [hb.cell (p := ⟨g, i, none⟩) h.lt]; exact h.at_ i hi⟩
theorem among_ls (p K g m : Nat) (L : List Int) (w : World) (h : Cur w p K) (hK : K ≤ 800000) (hm : m = L.length) (h1 : 1 ≤ m) (hm2 : m ≤ 60000) (hl : LS w g L) (hp : g ≠ p) :
    Calls Try.prog 66 #[.pointer (some ⟨p, 0, none⟩), .slice (some ⟨g, 0, none⟩) m m] w fun e w' => ∃ z, z ∈ L ∧ e = .returned (.int .i64 z) ∧ Cur w' p (K + 2) ∧ Kp p (p + 1) w w' := by
  subst hm
  refine (among_any p K g L.length L.length (fun i => L[i]?.getD 0) _ h (by omega) h1 hm2 hp hl.lt (fun i hi => hl.at_ i hi)).mono ?_
  rintro e w' ⟨r, rfl, hr, hC, hk⟩
  exact ⟨_, by rw [List.getElem?_eq_getElem hr]; exact List.getElem_mem hr, rfl, hC, hk⟩
theorem DS.push {w W W' : World} {p K o : Nat} {D A B : Int} {u v : Value} {ts us : List T2} (h : DS w W p K o D A B u ts) (ho : OwnR 72 c2 2 W' (o + 1) v us) (hg : W.grownBy W' u.ownBlock) : DS w (W'.setCell ⟨o, 3, none⟩ v) p K o D A B v us := by
  have hl := h.var.lt
  have hb : Below (o + 1) W W' := (Below.refl _ W).grown hg (by omega) (fun k hk => (h.row.lt k hk).1)
  have hob := h.ob
  exact ⟨(h.d0.hi (by omega) hb).hi hob ((Below.refl o W').setCell (p := ⟨o, 3, none⟩) (Nat.le_refl _) v), h.ob, (h.var.below hb (by omega)).put3, ho.setFar (fun e => by have := (ho.lt _ e).1; omega)⟩
/-- One of the three numbers is written. -/
theorem DS.put0 {w W : World} {p K o : Nat} {D A B : Int} {u : Value} {ts : List T2} (h : DS w W p K o D A B u ts) (x : Int) : DS w (W.setCell ⟨o, 0, none⟩ (.int .i64 x)) p K o x A B u ts := by
  have hob := h.ob
  have hv := h.var
  exact ⟨h.d0.hi hob ((Below.refl o W).setCell (p := ⟨o, 0, none⟩) (Nat.le_refl _) _), hob, ⟨by simpa [World.setCell] using hv.lt, setd_same hv.c0, by rw [setd_far (.inl (by decide))]; exact hv.c1, by rw [setd_far (.inl (by decide))]; exact hv.c2, by rw [setd_far (.inl (by decide))]; exact hv.c3, fun j => (World.frozen?_setCell _ _ _ _).trans (hv.fz j)⟩, h.row.setFar (fun e => by have := (h.row.lt _ e).1; omega)⟩
theorem DS.put1 {w W : World} {p K o : Nat} {D A B : Int} {u : Value} {ts : List T2} (h : DS w W p K o D A B u ts) (x : Int) : DS w (W.setCell ⟨o, 1, none⟩ (.int .i64 x)) p K o D x B u ts := by
  have hob := h.ob
  have hv := h.var
  exact ⟨h.d0.hi hob ((Below.refl o W).setCell (p := ⟨o, 1, none⟩) (Nat.le_refl _) _), hob, ⟨by simpa [World.setCell] using hv.lt, by rw [setd_far (.inl (by decide))]; exact hv.c0, setd_same hv.c1, by rw [setd_far (.inl (by decide))]; exact hv.c2, by rw [setd_far (.inl (by decide))]; exact hv.c3, fun j => (World.frozen?_setCell _ _ _ _).trans (hv.fz j)⟩, h.row.setFar (fun e => by have := (h.row.lt _ e).1; omega)⟩
theorem DS.put2 {w W : World} {p K o : Nat} {D A B : Int} {u : Value} {ts : List T2} (h : DS w W p K o D A B u ts) (x : Int) : DS w (W.setCell ⟨o, 2, none⟩ (.int .i64 x)) p K o D A x u ts := by
  have hob := h.ob
  have hv := h.var
  exact ⟨h.d0.hi hob ((Below.refl o W).setCell (p := ⟨o, 2, none⟩) (Nat.le_refl _) _), hob, ⟨by simpa [World.setCell] using hv.lt, by rw [setd_far (.inl (by decide))]; exact hv.c0, by rw [setd_far (.inl (by decide))]; exact hv.c1, setd_same hv.c2, by rw [setd_far (.inl (by decide))]; exact hv.c3, fun j => (World.frozen?_setCell _ _ _ _).trans (hv.fz j)⟩, h.row.setFar (fun e => by have := (h.row.lt _ e).1; omega)⟩
/-- A field of a Ground is written. -/
theorem DS.putG {w W : World} {p K o g n cap : Nat} {D A B : Int} {ts : List T2} (h : DS w W p K o D A B (.slice (some ⟨g, 0, none⟩) n cap) ts) {i f : Nat} {t : T2} {x : Value} (hi : i < ts.length) (hf : f < 2) (hx : c2 t f = x) (ht : ∀ f', f' < 2 → f' ≠ f → c2 t f' = c2 (rAt ts i) f') :
    DS w (W.setCell ⟨g, i * 2 + f, none⟩ x) p K o D A B (.slice (some ⟨g, 0, none⟩) n cap) (ts.set i t) := by
  have hob := h.ob
  have hgl := h.row.form
  exact ⟨h.d0.hi (C := o) hob ((Below.refl o W).setCell (p := ⟨g, i * 2 + f, none⟩) (show o ≤ g by omega) _), hob, h.var.set (by omega), (h.row.put hi hf hx ht).1⟩
theorem D0.fin {w W W' : World} {p K : Nat} (h : D0 w W p K) (hb : Below w.heap.size W W') : Cur W' p K ∧ Kp p (p + 1) w W' :=
  have hp := h.pw
  ⟨h.cur.kp (B := w.heap.size) ⟨hb.os, hb.tape, hb.output, hb.size, fun k hk hx => hb.block k (by rcases hx with hx | hx <;> omega)⟩ (by omega),
   ⟨hb.os.trans h.kp.os, hb.tape.trans h.kp.tape, hb.output.trans h.kp.output, Nat.le_trans h.kp.size hb.size, fun k hk hx => (hb.block k hk).trans (h.kp.block k hk hx)⟩⟩
end Go.Proofs.Ytkdmjeonlghnjaa
