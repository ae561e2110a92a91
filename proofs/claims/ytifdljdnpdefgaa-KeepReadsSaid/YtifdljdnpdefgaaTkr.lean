/-
  A RUN OFF A TAPE: takeRun.
-/
import Derived.Test.YtifdljdnpdefgaaClo
import Derived.Test.YtifdljdnpdefgaaWr2
import Derived.Deep.RegionHeld3
import Derived.Deep.DeepCutAuto
import Derived.Deep.CutBlock
namespace Go.Proofs.Ytifdljdnpdefgaa
open Go.RowKit
theorem Bt.TapeAt.drew2 {w : World} {b : Nat} {s : ByteArray} {e : Int} (h : Bt.TapeAt w b s e) : Bt.TapeAt w.drew b s e := h
theorem Bt.TapeAt.al2 {w : World} {b : Nat} {s : ByteArray} {e : Int} (h : Bt.TapeAt w b s e) (o : Obj) : Bt.TapeAt (w.alloc o) b s e := h.next ((Below.refl w.heap.size w).alloc (Nat.le_refl _) o)
/-- whole numbers in a block of their own kind, from block B on -/
def IntsB (w : World) (B : Nat) (a : Option Addr) (xs : List Int) : Prop := ∀ i (h : i < xs.length), ∃ g o cur, a = some ⟨g, o, none⟩ ∧ B ≤ g ∧ w.heap[g]? = some (.cells cur 3 (0, 0)) ∧ w.cell? ⟨g, o + i, none⟩ = some (.int .i64 xs[i])
theorem IntsB.ints {w : World} {B : Nat} {a : Option Addr} {xs : List Int} (h : IntsB w B a xs) : Ints w a xs := fun i hi => by
  obtain ⟨g, o, cur, e, _, hg, hc⟩ := h i hi
  exact ⟨g, o, e, (Array.getElem?_eq_some_iff.1 hg).1, hc⟩
theorem IntsB.keep {w w' : World} {B : Nat} {a : Option Addr} {xs : List Int} (h : IntsB w B a xs) (k : ∀ g cur, B ≤ g → w.heap[g]? = some (.cells cur 3 (0, 0)) → w'.heap[g]? = w.heap[g]?) : IntsB w' B a xs := fun i hi => by
  obtain ⟨g, o, cur, e, hB, hg, hc⟩ := h i hi
  have e2 := k g cur hB hg
  refine ⟨g, o, cur, e, hB, e2.trans hg, ?_⟩
  rw [← hc]
  unfold World.cell?
  simp only [e2]
theorem IntsB.low {w : World} {B C : Nat} {a : Option Addr} {xs : List Int} (h : IntsB w B a xs) (hC : C ≤ B) : IntsB w C a xs := fun i hi => by
  obtain ⟨g, o, cur, e, hB, hg, hc⟩ := h i hi
  exact ⟨g, o, cur, e, by omega, hg, hc⟩
theorem OwnI.intsB {w : World} {B : Nat} {v : Value} {xs : List Int} (h : OwnI w B v xs) : ∃ a c, v = .slice a xs.length c ∧ IntsB w B a xs ∧ xs.length ≤ c := by
  rcases h.2 with ⟨rfl, hn⟩ | ⟨g, cap, cur, rfl, hb, hgg, hc, _, _, _⟩
  · exact ⟨none, 0, by rw [hn], fun i hi => by omega, by omega⟩
  · refine ⟨some ⟨g, 0, none⟩, cap, rfl, fun i hi => ?_, hc⟩
    have e := World.ownsRow.cellAt h i (by omega)
    refine ⟨g, 0, cur, rfl, hb, hgg, ?_⟩
    rw [Nat.zero_add, e]
    simp
/-- a run's block that is new: empty so far -/
structure KX (B b : Nat) (w : World) (X : Nat) : Prop where
  k : Blk w X 46 #[.int .i64 0, .int .i64 0, .int .i64 0, .int .u64 0, .slice none 0 0]
  n : b < X
  g : B ≤ X
theorem KX.new {B b : Nat} (w : World) {s : ByteArray} {e : Int} (h : Bt.TapeAt w b s e) (hB : B ≤ w.heap.size) : KX B b (w.alloc (.cells #[.int .i64 0, .int .i64 0, .int .i64 0, .int .u64 0, .slice none 0 0] 46)) w.heap.size := ⟨Blk.new w 46 _, h.lt, hB⟩
theorem KX.step {B b X : Nat} {w0 w w' : World} (h : KX B b w0 X) (g : w.grownBy w' (some b)) (e : w.heap = w0.heap) : KX B b w' X := ⟨Blk.fr (w := w) (by unfold Blk; rw [e]; exact h.k) (Fr.grown g) (by have := h.n; omega), h.n, h.g⟩
theorem KX.fresh {B b : Nat} {w w' : World} {s : ByteArray} {e : Int} (g : (w.alloc (.cells #[.int .i64 0, .int .i64 0, .int .i64 0, .int .u64 0, .slice none 0 0] 46)).grownBy w' (some b)) (h : Bt.TapeAt w b s e) (hB : B ≤ w.heap.size) : KX B b w' w.heap.size := (KX.new w h hB).step g rfl
theorem undrew {w w' : World} {r : Option Nat} (g : w.drew.grownBy w' r) : w.grownBy w' r := ⟨g.os, g.tape, g.output, g.size, g.block⟩
theorem KX.newd {B b : Nat} (w : World) {s : ByteArray} {e : Int} (h : Bt.TapeAt w b s e) (hB : B ≤ w.heap.size) : KX B b (w.drew.alloc (.cells #[.int .i64 0, .int .i64 0, .int .i64 0, .int .u64 0, .slice none 0 0] 46)) w.heap.size := KX.new w.drew h hB
section
variable {B b X : Nat} {w : World}
theorem KX.z0 (h : KX B b w X) : w.cell? ⟨X, 0, none⟩ = some (.int .i64 0) := h.k.cell 0
theorem KX.z1 (h : KX B b w X) : w.cell? ⟨X, 1, none⟩ = some (.int .i64 0) := h.k.cell 1
theorem KX.z2 (h : KX B b w X) : w.cell? ⟨X, 2, none⟩ = some (.int .i64 0) := h.k.cell 2
theorem KX.z3 (h : KX B b w X) : w.cell? ⟨X, 3, none⟩ = some (.int .u64 0) := h.k.cell 3
theorem KX.z4 (h : KX B b w X) : w.cell? ⟨X, 4, none⟩ = some (.slice none 0 0) := h.k.cell 4
theorem KX.zf (h : KX B b w X) (i : Nat) : w.frozen? ⟨X, i, none⟩ = false := h.k.free i
end
abbrev ST (W : World) (Y b : Nat) (w' : World) : Prop := w'.cell? ⟨Y, 0, none⟩ = some (.pointer (some ⟨b, 0, none⟩)) ∧ Fr W w' (fun q => q = b)
theorem ST.of {W w' : World} {Y b : Nat} (K : Blk W Y 52 #[.pointer (some ⟨b, 0, none⟩)]) (hn : Y ≠ b) (h : Fr W w' (fun q => q = b)) : ST W Y b w' := ⟨(K.fr h hn).cell 0, h⟩
/-- behind the run's four numbers -/
structure Hd (w wx : World) (Y b X : Nat) (c0 c1 c2 c3 : Int) (t : Tp) (v : Value) : Prop where
  x : Blk wx X 46 #[.int .i64 c0, .int .i64 c1, .int .i64 c2, .int .u64 c3, v]
  y : Blk wx Y 52 #[.pointer (some ⟨b, 0, none⟩)]
  r : Blk wx (Y + 1) 46 #[.int .i64 0, .int .i64 0, .int .i64 0, .int .u64 0, .slice none 0 0]
  t : Bt.TapeAt wx b t.1 t.2
  f : Fr w wx (fun q => q = b)
  h : Y + 1 < X
/-- what the four numbers' block lies on -/
structure Hb (w W w4 : World) (Y b : Nat) (t : Tp) : Prop where
  y : Blk W Y 52 #[.pointer (some ⟨b, 0, none⟩)]
  r : Blk W (Y + 1) 46 #[.int .i64 0, .int .i64 0, .int .i64 0, .int .u64 0, .slice none 0 0]
  fw : Fr w W (fun q => q = b)
  f : Fr W w4 (fun q => q = b)
  t : Bt.TapeAt w4 b t.1 t.2
  n : b < Y
  z : Y + 2 ≤ W.heap.size
  e : Y = w.heap.size
theorem hd_new {w W w4 : World} {Y b : Nat} {t : Tp} (h : Hb w W w4 Y b t) (c0 c1 c2 c3 : Int) : Hd w (w4.alloc (.cells #[.int .i64 c0, .int .i64 c1, .int .i64 c2, .int .u64 c3, .slice none 0 0] 46)) Y b w4.heap.size c0 c1 c2 c3 t (.slice none 0 0) := by
  have fa := h.f.al (.cells #[.int .i64 c0, .int .i64 c1, .int .i64 c2, .int .u64 c3, .slice none 0 0] 46)
  have := h.n
  have := h.f.size
  have := h.z
  exact ⟨Blk.new w4 46 _, h.y.fr fa (by omega), h.r.fr fa (by omega), h.t.al2 _, h.fw.on fa, by omega⟩
theorem hd_set {w W w4 : World} {Y b X : Nat} {t : Tp} (h : Hb w W w4 Y b t) (k : KX W.heap.size b w4 X) (c0 c1 c2 c3 : Int) : Hd w (((((w4.setCell ⟨X, 0, none⟩ (.int .i64 c0)).setCell ⟨X, 1, none⟩ (.int .i64 c1)).setCell ⟨X, 2, none⟩ (.int .i64 c2)).setCell ⟨X, 3, none⟩ (.int .u64 c3)).setCell ⟨X, 4, none⟩ (.slice none 0 0)) Y b X c0 c1 c2 c3 t (.slice none 0 0) := by
  have := h.n
  have := h.z
  have := k.g
  have := h.e
  have s : ∀ {v : World} (i : Nat) (u : Value), Fr W v (fun q => q = b) → Fr W (v.setCell ⟨X, i, none⟩ u) (fun q => q = b) := fun i u f => f.set X i u (.inr k.g)
  have fa := s 4 (.slice none 0 0) (s 3 (.int .u64 c3) (s 2 (.int .i64 c2) (s 1 (.int .i64 c1) (s 0 (.int .i64 c0) h.f))))
  have st : ∀ {v : World} (i : Nat) (u : Value), Bt.TapeAt v b t.1 t.2 → Bt.TapeAt (v.setCell ⟨X, i, none⟩ u) b t.1 t.2 := fun i u f => f.fr2 (fr_set _ X i u) (by omega)
  exact ⟨((((k.k.set 0 _).set 1 _).set 2 _).set 3 _).set 4 _, h.y.fr fa (by omega), h.r.fr fa (by omega), st 4 _ (st 3 _ (st 2 _ (st 1 _ (st 0 _ h.t)))), h.fw.on fa, by omega⟩
/-- the result's block at the end -/
theorem hd_end {w w5 : World} {Y b X : Nat} {d0 d1 d2 d3 : Int} {t : Tp} {u0 : Value} (h : Hd w w5 Y b X d0 d1 d2 d3 t u0) (c0 c1 c2 c3 : Int) (v : Value) (hb : b < Y) (hY : Y = w.heap.size) :
    Blk (((((w5.setCell ⟨Y + 1, 0, none⟩ (.int .i64 c0)).setCell ⟨Y + 1, 1, none⟩ (.int .i64 c1)).setCell ⟨Y + 1, 2, none⟩ (.int .i64 c2)).setCell ⟨Y + 1, 3, none⟩ (.int .u64 c3)).setCell ⟨Y + 1, 4, none⟩ v) (Y + 1) 46 #[.int .i64 c0, .int .i64 c1, .int .i64 c2, .int .u64 c3, v] ∧
    Bt.TapeAt (((((w5.setCell ⟨Y + 1, 0, none⟩ (.int .i64 c0)).setCell ⟨Y + 1, 1, none⟩ (.int .i64 c1)).setCell ⟨Y + 1, 2, none⟩ (.int .i64 c2)).setCell ⟨Y + 1, 3, none⟩ (.int .u64 c3)).setCell ⟨Y + 1, 4, none⟩ v) b t.1 t.2 ∧
    Fr w (((((w5.setCell ⟨Y + 1, 0, none⟩ (.int .i64 c0)).setCell ⟨Y + 1, 1, none⟩ (.int .i64 c1)).setCell ⟨Y + 1, 2, none⟩ (.int .i64 c2)).setCell ⟨Y + 1, 3, none⟩ (.int .u64 c3)).setCell ⟨Y + 1, 4, none⟩ v) (fun q => q = b) := by
  have s : ∀ {u : World} (i : Nat) (v : Value), Fr w u (fun q => q = b) → Fr w (u.setCell ⟨Y + 1, i, none⟩ v) (fun q => q = b) := fun i v f => f.set (Y + 1) i v (.inr (by omega))
  have st : ∀ {u : World} (i : Nat) (v : Value), Bt.TapeAt u b t.1 t.2 → Bt.TapeAt (u.setCell ⟨Y + 1, i, none⟩ v) b t.1 t.2 := fun i u f => f.fr2 (fr_set _ (Y + 1) i u) (by omega)
  exact ⟨((((h.r.set 0 _).set 1 _).set 2 _).set 3 _).set 4 _, st 4 _ (st 3 _ (st 2 _ (st 1 _ (st 0 _ h.t)))), s 4 _ (s 3 _ (s 2 _ (s 1 _ (s 0 _ h.f))))⟩
theorem Hd.below {w wx w' : World} {Y b X : Nat} {c0 c1 c2 c3 : Int} {t : Tp} {v : Value} (h : Hd w wx Y b X c0 c1 c2 c3 t v) (k : Below wx.heap.size wx w') : Hd w w' Y b X c0 c1 c2 c3 t v :=
  ⟨h.x.over k, h.y.over k, h.r.over k, h.t.next k, h.f.over (k.mono h.f.size), h.h⟩
theorem cl_new {w w5 : World} {Y b X : Nat} {c0 c1 c2 c3 : Int} {t : Tp} {v : Value} (h : Hd w w5 Y b X c0 c1 c2 c3 t v) : Cl (w5.alloc (.cells #[.int .i64 c0] 3)) w5.heap.size Y b c0 t := ⟨Blk.new w5 3 _, Blk.al h.y _, h.t.al2 _⟩
theorem hd_sv {w w6 w7 : World} {Y b X lb : Nat} {c0 c1 c2 c3 : Int} {t : Tp} {v u : Value} {I : List Int × Int × Tp} (h : Hd w w6 Y b X c0 c1 c2 c3 t v) (k : Sv w6 w7 lb Y b I u) (h1 : X ≠ lb) (h2 : Y + 1 < lb) (h3 : b < Y) (h4 : w.heap.size ≤ lb) : Hd w w7 Y b X c0 c1 c2 c3 I.2.2 v := by
  have := h.h
  exact ⟨h.x.fr k.f (fun e => by rcases e with e | e <;> omega), k.c.bx, h.r.fr k.f (fun e => by rcases e with e | e <;> omega), k.c.bt, h.f.trans k.f (fun _ _ h => h) (fun q hq e => by rcases e with e | e; omega; exact e), h.h⟩
theorem app_end {w w8 w9 : World} {Y b X g cap n B : Nat} {c0 c1 c2 c3 : Int} {t : Tp} {v : Value} {xs : List Value} (h : Hd w w8 Y b X c0 c1 c2 c3 t v) (ho : World.ownsRow w9 B 3 1 (.slice (some ⟨g, 0, none⟩) n cap) n xs) (hg : w8.grownBy w9 (some B)) (h1 : X < B) (h2 : w.heap.size ≤ B) (h3 : b < Y) : Hd w w9 Y b X c0 c1 c2 c3 t v ∧ B ≤ g := by
  have F := Fr.grown hg
  have := h.h
  exact ⟨⟨h.x.fr F (by omega), h.y.fr F (by omega), h.r.fr F (by omega), h.t.fr2 F (by omega), h.f.trans F (fun _ _ h => h) (fun q hq e => by omega), h.h⟩, (World.ownsRow.lt ho g rfl).1⟩
theorem news_ints {W : World} {b o : Nat} {L : List Int} (h : Ints W (some ⟨b, o, none⟩) L) : ∀ j u, (L.map (Value.int .i64))[j]? = some u → W.cell? ((⟨b, o, none⟩ : Addr).add j) = some u := fun j u hu => by
  rw [List.getElem?_map, Option.map_eq_some_iff] at hu
  obtain ⟨x, hx, rfl⟩ := hu
  obtain ⟨hj, rfl⟩ := List.getElem?_eq_some_iff.1 hx
  obtain ⟨b', o', e, _, hc⟩ := h j hj
  cases e
  rw [show (⟨b, o, none⟩ : Addr).add j = ⟨b, o + j, none⟩ by unfold Addr.add; split <;> simp_all]
  exact hc
theorem own_cons {w : World} {B m : Nat} {v : Value} {x : Int} {L : List Int} (hL : L.length = m) (h : World.ownsRow w B 3 1 v (1 + m) ([.int .i64 x] ++ L.map (Value.int .i64))) : OwnI w B v (x :: L) := by
  unfold OwnI
  rw [List.length_cons, hL, Nat.add_comm m 1]
  exact h
theorem hd_fin {w w9 : World} {Y b X B g : Nat} {c0 c1 c2 c3 : Int} {t : Tp} {u : Value} {L : List Int} (h : Hd w w9 Y b X c0 c1 c2 c3 t u ∧ B ≤ g) (v : Value) (ho : OwnI w9 B v L) (hX : X < B) (hb : b < Y) (hY : Y = w.heap.size) :
    Blk ((((((w9.setCell ⟨X, 4, none⟩ v).setCell ⟨Y + 1, 0, none⟩ (.int .i64 c0)).setCell ⟨Y + 1, 1, none⟩ (.int .i64 c1)).setCell ⟨Y + 1, 2, none⟩ (.int .i64 c2)).setCell ⟨Y + 1, 3, none⟩ (.int .u64 c3)).setCell ⟨Y + 1, 4, none⟩ v) (Y + 1) 46 #[.int .i64 c0, .int .i64 c1, .int .i64 c2, .int .u64 c3, v] ∧
    Bt.TapeAt ((((((w9.setCell ⟨X, 4, none⟩ v).setCell ⟨Y + 1, 0, none⟩ (.int .i64 c0)).setCell ⟨Y + 1, 1, none⟩ (.int .i64 c1)).setCell ⟨Y + 1, 2, none⟩ (.int .i64 c2)).setCell ⟨Y + 1, 3, none⟩ (.int .u64 c3)).setCell ⟨Y + 1, 4, none⟩ v) b t.1 t.2 ∧
    Fr w ((((((w9.setCell ⟨X, 4, none⟩ v).setCell ⟨Y + 1, 0, none⟩ (.int .i64 c0)).setCell ⟨Y + 1, 1, none⟩ (.int .i64 c1)).setCell ⟨Y + 1, 2, none⟩ (.int .i64 c2)).setCell ⟨Y + 1, 3, none⟩ (.int .u64 c3)).setCell ⟨Y + 1, 4, none⟩ v) (fun q => q = b) ∧
    OwnI ((((((w9.setCell ⟨X, 4, none⟩ v).setCell ⟨Y + 1, 0, none⟩ (.int .i64 c0)).setCell ⟨Y + 1, 1, none⟩ (.int .i64 c1)).setCell ⟨Y + 1, 2, none⟩ (.int .i64 c2)).setCell ⟨Y + 1, 3, none⟩ (.int .u64 c3)).setCell ⟨Y + 1, 4, none⟩ v) B v L := by
  have hXY := h.1.h
  have h10 : Hd w (w9.setCell ⟨X, 4, none⟩ v) Y b X c0 c1 c2 c3 t v := ⟨h.1.x.set 4 _, h.1.y.fr (fr_set w9 X 4 v) (by omega), h.1.r.fr (fr_set w9 X 4 v) (by omega), h.1.t.fr2 (fr_set w9 X 4 v) (by omega), h.1.f.set X 4 v (.inr (by omega)), h.1.h⟩
  obtain ⟨e1, e2, e3⟩ := hd_end h10 c0 c1 c2 c3 v hb hY
  refine ⟨e1, e2, e3, ?_⟩
  have s : ∀ {z : World} (i : Nat) (u : Value), OwnI z B v L → OwnI (z.setCell ⟨Y + 1, i, none⟩ u) B v L := fun i u o => o.fr (fr_set _ (Y + 1) i u) (fun q e => by omega)
  exact s 4 _ (s 3 _ (s 2 _ (s 1 _ (s 0 _ (ho.fr (fr_set w9 X 4 v) (fun q e => by omega))))))
set_option maxHeartbeats 8000000 in
set_option maxRecDepth 100000 in
theorem takeRun_any {w : World} {b : Nat} {t : Tp} (h : Bt.TapeAt w b t.1 t.2) (hs : t.1.size ≤ 281474976710656) :
    Calls Try.prog 24 #[.pointer (some ⟨b, 0, none⟩)] w fun e w' => ∃ q c, e = .returned (.agg #[.int .i64 (pRun t).1.b, .int .i64 (pRun t).1.t, .int .i64 (pRun t).1.s, .int .u64 (pRun t).1.n, .slice q (pRun t).1.P.length c]) ∧ IntsB w' w.heap.size q (pRun t).1.P ∧ (pRun t).1.P.length ≤ c ∧ Bt.TapeAt w' b (pRun t).2.1 (pRun t).2.2 ∧ Fr w w' (fun q => q = b) := by
  have hb := h.lt
  have hs1 := Nat.le_trans (pn_le t) hs
  have hs2 := Nat.le_trans (pn_le (pn t).2) hs1
  have hs3 := Nat.le_trans (pn_le (pn (pn t).2).2) hs2
  have hs4 := Nat.le_trans (pn_le (pn (pn (pn t).2).2).2) hs3
  have hs5 := Nat.le_trans (pn_le (pn (pn (pn (pn t).2).2).2).2) hs4
  have l5 := pn_lt (pn (pn (pn (pn t).2).2).2).2
  have N1 := Lib.hid (fun W (hT : Bt.TapeAt W b t.1 t.2) => num_any hT hs)
  have N2 := Lib.hid (fun W (hT : Bt.TapeAt W b (pn t).2.1 (pn t).2.2) => num_any hT hs1)
  have N3 := Lib.hid (fun W (hT : Bt.TapeAt W b (pn (pn t).2).2.1 (pn (pn t).2).2.2) => num_any hT hs2)
  have N4 := Lib.hid (fun W (hT : Bt.TapeAt W b (pn (pn (pn t).2).2).2.1 (pn (pn (pn t).2).2).2.2) => num_any hT hs3)
  have N5 := Lib.hid (fun W (hT : Bt.TapeAt W b (pn (pn (pn (pn t).2).2).2).2.1 (pn (pn (pn (pn t).2).2).2).2.2) => num_any hT hs4)
  have R0 : pRun t = if (pn (pn (pn (pn (pn t).2).2).2).2).1 = 0 then (⟨wrap64 (pn t).1, wrap64 (pn (pn t).2).1, wrap64 (pn (pn (pn t).2).2).1, (pn (pn (pn (pn t).2).2).2).1, []⟩, (pn (pn (pn (pn (pn t).2).2).2).2).2)
    else (⟨wrap64 (pn t).1, wrap64 (pn (pn t).2).1, wrap64 (pn (pn (pn t).2).2).1, (pn (pn (pn (pn t).2).2).2).1, wrap64 (pn t).1 :: (pIter (min ((pn (pn (pn (pn (pn t).2).2).2).2).1 - 1) 15) (wrap64 (pn t).1) (pn (pn (pn (pn (pn t).2).2).2).2).2).1⟩,
      (pIter (min ((pn (pn (pn (pn (pn t).2).2).2).2).1 - 1) 15) (wrap64 (pn t).1) (pn (pn (pn (pn (pn t).2).2).2).2).2).2.2) := rfl
  have HR := Lib.hid R0
  clear R0
  generalize pRun t = PR at *
  generalize pn (pn (pn (pn (pn t).2).2).2).2 = y5 at *
  generalize pn (pn (pn (pn t).2).2).2 = y4 at *
  generalize pn (pn (pn t).2).2 = y3 at *
  generalize pn (pn t).2 = y2 at *
  generalize pn t = y1 at *
  obtain ⟨n1, s1, e1⟩ := y1
  obtain ⟨n2, s2, e2⟩ := y2
  obtain ⟨n3, s3, e3⟩ := y3
  obtain ⟨n4, s4, e4⟩ := y4
  obtain ⟨n5, s5, e5⟩ := y5
  obtain ⟨s0, e0⟩ := t
  simp only at N1 N2 N3 N4 N5 h l5 hs5 HR
  clear hs hs1 hs2 hs3 hs4
  obtain ⟨W, hW, KY, KR, T0, FW, hz⟩ : ∃ W, W = (w.alloc (.cells #[.pointer (some ⟨b, 0, none⟩)] 52)).alloc (.cells #[.int .i64 0, .int .i64 0, .int .i64 0, .int .u64 0, .slice none 0 0] 46) ∧ Blk W w.heap.size 52 #[.pointer (some ⟨b, 0, none⟩)] ∧ Blk W (w.heap.size + 1) 46 #[.int .i64 0, .int .i64 0, .int .i64 0, .int .u64 0, .slice none 0 0] ∧ Bt.TapeAt W b s0 e0 ∧ Fr w W (fun q => q = b) ∧ W.heap.size = w.heap.size + 2 := by
    refine ⟨_, rfl, (Blk.new w 52 _).al _, Blk.new2 _ 46 _ (by simp), (h.al2 _).al2 _, ((Fr.refl w _).al _).al _, by simp⟩
  have HW := Lib.hid hW
  have KYh := Lib.hid KY
  have KRh := Lib.hid KR
  have t0h := Lib.hid T0
  have t0 := T0
  have FWh := Lib.hid FW
  have hWW : w.heap.size + 2 ≤ W.heap.size := by omega
  have HZ := Lib.hid hWW
  clear hW KY KR FW h T0 hz hWW
  generalize hY : w.heap.size = Y at *
  have hYb : Y ≠ b := by omega
  have hW1 : W.heap.size ≤ W.heap.size := Nat.le_refl _
  have S1 := ST.of KYh.out hYb ((Fr.refl W (fun q => q = b)).drew)
  go_enter Try.func24, Try.ntmps24
  go_upto_region 1 with fail
  rw [← HW.out]
  go_cut [3] (fun s3 wx => ∃ X, s3 = .pointer (some ⟨X, 0, none⟩) ∧ Hd w wx Y b X (IntKind.i64.wrap (n1 : Int)) (IntKind.i64.wrap (n2 : Int)) (IntKind.i64.wrap (n3 : Int)) (n4 : Int) (s4, e4) (.slice none 0 0))
  case first =>
    go_region_held3 (fun w' => w'.cell? ⟨Y, 0, none⟩ = some (.pointer (some ⟨b, 0, none⟩)) ∧ Fr W w' (fun q => q = b))
      (first | (with_reducible exact S1) | (refine ST.of KYh.out hYb ?_; (repeat (with_reducible first | assumption | exact Fr.refl _ _ | refine Fr.drew ?_ | refine Fr.al ?_ _ | refine Fr.set ?_ _ _ _ (.inr ?_))); all_goals (first | done | (have := f4.size; omega) | (have := kx4.g; omega)); done))
      (first
        | (go_at_call 21; refine (N4.out _ ?_).mono ?_; rotate_left; (rintro r w4 ⟨rfl, g4, t4⟩; have f4 : Fr W w4 (fun q => q = b) := Fr.on (by (repeat (with_reducible first | assumption | exact Fr.refl _ _ | refine Fr.drew ?_ | refine Fr.al ?_ _))) (Fr.grown g4); have t4h := Lib.hid t4); rotate_left; (focus ((repeat (with_reducible first | assumption | refine Bt.TapeAt.drew2 ?_ | refine Bt.TapeAt.al2 ?_ _)); done)); (first | (have kx4 := KX.step kx3 g4 rfl) | (have kx4 := KX.fresh g4 t3h.out f3.size) | (have kx4 := KX.fresh (undrew g4) t3h.out f3.size) | skip); (first | (have z0 := kx4.z0; have z1 := kx4.z1; have z2 := kx4.z2; have z3 := kx4.z3; have z4 := kx4.z4; have zf0 := kx4.zf 0; have zf1 := kx4.zf 1; have zf2 := kx4.zf 2; have zf3 := kx4.zf 3; have zf4 := kx4.zf 4) | (have ky4 := KX.new w4 t4h.out f4.size; have kz4 := KX.newd w4 t4h.out f4.size; have y0 := ky4.z0; have y1 := ky4.z1; have y2 := ky4.z2; have y3 := ky4.z3; have y4 := ky4.z4; have yf0 := ky4.zf 0; have yf1 := ky4.zf 1; have yf2 := ky4.zf 2; have yf3 := ky4.zf 3; have yf4 := ky4.zf 4; have x0 := kz4.z0; have x1 := kz4.z1; have x2 := kz4.z2; have x3 := kz4.z3; have x4 := kz4.z4; have xf0 := kz4.zf 0; have xf1 := kz4.zf 1; have xf2 := kz4.zf 2; have xf3 := kz4.zf 3; have xf4 := kz4.zf 4; clear ky4 kz4)))
        | (go_at_call 21; refine (N3.out _ ?_).mono ?_; rotate_left; (rintro r w3 ⟨rfl, g3, t3⟩; have f3 : Fr W w3 (fun q => q = b) := Fr.on (by (repeat (with_reducible first | assumption | exact Fr.refl _ _ | refine Fr.drew ?_ | refine Fr.al ?_ _))) (Fr.grown g3); have t3h := Lib.hid t3); rotate_left; (focus ((repeat (with_reducible first | assumption | refine Bt.TapeAt.drew2 ?_ | refine Bt.TapeAt.al2 ?_ _)); done)); (first | (have kx3 := KX.step kx2 g3 rfl) | (have kx3 := KX.fresh g3 t2h.out f2.size) | (have kx3 := KX.fresh (undrew g3) t2h.out f2.size) | skip))
        | (go_at_call 21; refine (N2.out _ ?_).mono ?_; rotate_left; (rintro r w2 ⟨rfl, g2, t2⟩; have f2 : Fr W w2 (fun q => q = b) := Fr.on (by (repeat (with_reducible first | assumption | exact Fr.refl _ _ | refine Fr.drew ?_ | refine Fr.al ?_ _))) (Fr.grown g2); have t2h := Lib.hid t2); rotate_left; (focus ((repeat (with_reducible first | assumption | refine Bt.TapeAt.drew2 ?_ | refine Bt.TapeAt.al2 ?_ _)); done)); (first | (have kx2 := KX.step kx1 g2 rfl) | (have kx2 := KX.fresh g2 t1h.out f1.size) | (have kx2 := KX.fresh (undrew g2) t1h.out f1.size) | skip))
        | (go_at_call 21; refine (N1.out _ ?_).mono ?_; rotate_left; (rintro r w1 ⟨rfl, g1, t1⟩; have f1 : Fr W w1 (fun q => q = b) := Fr.on (by (repeat (with_reducible first | assumption | exact Fr.refl _ _ | refine Fr.drew ?_ | refine Fr.al ?_ _))) (Fr.grown g1); have t1h := Lib.hid t1); rotate_left; (focus ((repeat (with_reducible first | assumption | refine Bt.TapeAt.drew2 ?_ | refine Bt.TapeAt.al2 ?_ _)); done)); (first | (have kx1 := KX.step kx0 g1 rfl) | (have kx1 := KX.fresh g1 t0h.out hW1) | (have kx1 := KX.fresh (undrew g1) t0h.out hW1) | skip)))
    all_goals
      have hb4 : Hb w W w4 Y b (s4, e4) := ⟨KYh.out, KRh.out, FWh.out, f4, t4h.out, hb, HZ.out, hY.symm⟩
      go_wp2_with fail
      go_meet
      exact ⟨_, rfl, by first | exact hd_set hb4 kx4 _ _ _ _ | exact hd_new hb4 _ _ _ _⟩
  case rest =>
    obtain ⟨X, rfl, hd⟩ := hcut
    have HD := Lib.hid hd
    simp only [IntWalk.i64_left] at HD
    have d0 : wc.cell? ⟨Y, 0, none⟩ = some (.pointer (some ⟨b, 0, none⟩)) := hd.y.cell 0
    have N5h := Lib.hid (N5.out _ hd.t)
    clear hd N1 N2 N3 N4 N5 S1 KYh KRh t0h t0 FWh HW HZ hW1
    generalize wrap64 (n1 : Int) = i1 at *
    generalize wrap64 (n2 : Int) = i2 at *
    generalize wrap64 (n3 : Int) = i3 at *
    go_wp2_with fail
    refine N5h.out.mono ?_
    rintro e w5 ⟨rfl, g5, t5⟩
    have F5 : Fr wc w5 (fun q => q = b) := Fr.grown g5
    have hXY := HD.out.h
    have H5 : Hid (Hd w w5 Y b X i1 i2 i3 (n4 : Int) (s5, e5) (.slice none 0 0)) := Lib.hid ⟨HD.out.x.fr F5 (by omega), HD.out.y.fr F5 (by omega), HD.out.r.fr F5 (by omega), t5, HD.out.f.on F5, hXY⟩
    clear g5 t5 F5 HD N5h d0
    by_cases hn : n5 = 0
    · subst hn
      rw [if_pos rfl] at HR
      have x0 : w5.cell? ⟨X, 0, none⟩ = some (.int .i64 i1) := H5.out.x.cell 0
      have x1 : w5.cell? ⟨X, 1, none⟩ = some (.int .i64 i2) := H5.out.x.cell 1
      have x2 : w5.cell? ⟨X, 2, none⟩ = some (.int .i64 i3) := H5.out.x.cell 2
      have x3 : w5.cell? ⟨X, 3, none⟩ = some (.int .u64 (n4 : Int)) := H5.out.x.cell 3
      have x4 : w5.cell? ⟨X, 4, none⟩ = some (.slice none 0 0) := H5.out.x.cell 4
      have r0 : w5.cell? ⟨Y + 1, 0, none⟩ = some (.int .i64 0) := H5.out.r.cell 0
      have r1 : w5.cell? ⟨Y + 1, 1, none⟩ = some (.int .i64 0) := H5.out.r.cell 1
      have r2 : w5.cell? ⟨Y + 1, 2, none⟩ = some (.int .i64 0) := H5.out.r.cell 2
      have r3 : w5.cell? ⟨Y + 1, 3, none⟩ = some (.int .u64 0) := H5.out.r.cell 3
      have r4 : w5.cell? ⟨Y + 1, 4, none⟩ = some (.slice none 0 0) := H5.out.r.cell 4
      have rf0 := H5.out.r.free 0
      have rf1 := H5.out.r.free 1
      have rf2 := H5.out.r.free 2
      have rf3 := H5.out.r.free 3
      have rf4 := H5.out.r.free 4
      go_wp2_with fail
      have E6 := Lib.hid (hd_end H5.out i1 i2 i3 (n4 : Int) (.slice none 0 0) hb hY.symm)
      clear x0 x1 x2 x3 x4 r0 r1 r2 r3 r4 rf0 rf1 rf2 rf3 rf4
      generalize ((((w5.setCell ⟨Y + 1, 0, none⟩ (.int .i64 i1)).setCell ⟨Y + 1, 1, none⟩ (.int .i64 i2)).setCell ⟨Y + 1, 2, none⟩ (.int .i64 i3)).setCell ⟨Y + 1, 3, none⟩ (.int .u64 (n4 : Int))).setCell ⟨Y + 1, 4, none⟩ (.slice none 0 0) = w6 at *
      have q0 : w6.cell? ⟨Y + 1, 0, none⟩ = some (.int .i64 i1) := E6.out.1.cell 0
      have q1 : w6.cell? ⟨Y + 1, 1, none⟩ = some (.int .i64 i2) := E6.out.1.cell 1
      have q2 : w6.cell? ⟨Y + 1, 2, none⟩ = some (.int .i64 i3) := E6.out.1.cell 2
      have q3 : w6.cell? ⟨Y + 1, 3, none⟩ = some (.int .u64 (n4 : Int)) := E6.out.1.cell 3
      have q4 : w6.cell? ⟨Y + 1, 4, none⟩ = some (.slice none 0 0) := E6.out.1.cell 4
      refine bodyPost_ret (by simp [results, Try.results24, go_sem, q0, q1, q2, q3, q4]; try rfl) rfl ?_
      refine ⟨none, 0, by rw [HR.out]; rfl, ?_, ?_, ?_, E6.out.2.2⟩
      · rw [HR.out]; intro i hi; exact absurd hi (Nat.not_lt_zero i)
      · rw [HR.out]; exact Nat.le_refl 0
      · rw [HR.out]; exact E6.out.2.1
    · rw [if_neg hn] at HR
      have hXs := H5.out.x.lt
      have C6 := Lib.hid (cl_new H5.out)
      have SI := Lib.hid (several_int (n5 - 1) (by omega) C6.out hs5 (by omega : w5.heap.size ≠ Y) (by omega) (by omega))
      have H6 := Lib.hid (H5.out.below ((Below.refl w5.heap.size w5).alloc (Nat.le_refl _) (.cells #[.int .i64 i1] 3)))
      have x0 : w5.cell? ⟨X, 0, none⟩ = some (.int .i64 i1) := H5.out.x.cell 0
      have x6 : (w5.alloc (.cells #[.int .i64 i1] 3)).cell? ⟨X, 0, none⟩ = some (.int .i64 i1) := H6.out.x.cell 0
      have hsub : IntKind.u64.wrap ((n5 : Int) - 1) = ((n5 - 1 : Nat) : Int) := by rw [IntWalk.u64_in _ (by omega)]; omega
      have hsub2 : (n5 : Int) - 1 = ((n5 - 1 : Nat) : Int) := by omega
      have hnI : ¬ (n5 : Int) = 0 := by omega
      have hz6 : (w5.alloc (.cells #[.int .i64 i1] 3)).heap.size = w5.heap.size + 1 := by simp
      have H7 := Lib.hid (fun w7 v (h : Sv (w5.alloc (.cells #[.int .i64 i1] 3)) w7 w5.heap.size Y b (pIter (min (n5 - 1) 15) i1 (s5, e5)) v) => hd_sv H6.out h (by omega) (by omega) (by omega) (by omega))
      have HL := Lib.hid (pIter_len (min (n5 - 1) 15) i1 (s5, e5))
      clear C6 H5
      generalize hM : n5 - 1 = N at *
      generalize pIter (min N 15) i1 (s5, e5) = I at *
      obtain ⟨IL, Ip, It⟩ := I
      simp only at HL H7 HR
      go_wp2_with fail
      refine SI.out.mono ?_
      rintro e w7 ⟨v, rfl, hsv, hv0⟩
      have HV0 := Lib.hid hv0
      clear hv0
      have G7 := Lib.hid (H7.out w7 v hsv)
      obtain ⟨va, vc, hv, hin, hvc⟩ := hsv.o.ints
      simp only at hv hin hvc
      rw [HL.out] at hv
      subst hv
      have hf7 := hsv.f.size
      rw [hz6] at hf7
      clear hsv SI H7 x0 x6 hz6 H6
      have x7 : w7.cell? ⟨X, 0, none⟩ = some (.int .i64 i1) := G7.out.x.cell 0
      have hX7 := G7.out.x.lt
      have hY7 : Y ≤ w7.heap.size := by omega
      have hR7 := G7.out.r.lt
      have z7 : w7.cell? ⟨X, 4, none⟩ = some (.slice none 0 0) := G7.out.x.cell 4
      have BG := Blk.new w7 3 #[.int .i64 i1]
      have HG := Lib.hid (G7.out.below ((Below.refl w7.heap.size w7).alloc (Nat.le_refl _) (.cells #[.int .i64 i1] 3)))
      have IG := Lib.hid (hin.below ((Below.refl w7.heap.size w7).alloc (Nat.le_refl _) (.cells #[.int .i64 i1] 3)))
      have OG : (w7.alloc (.cells #[.int .i64 i1] 3)).ownsRow w7.heap.size 3 1 (.slice (some ⟨w7.heap.size, 0, none⟩) 1 1) 1 [.int .i64 i1] :=
        ⟨rfl, .inr ⟨w7.heap.size, 1, #[.int .i64 i1], rfl, Nat.le_refl _, BG, Nat.le_refl _, by unfold maxLen; omega, rfl, rfl⟩⟩
      have OGh := Lib.hid OG
      have a0 : (w7.alloc (.cells #[.int .i64 i1] 3)).cell? ⟨X, 0, none⟩ = some (.int .i64 i1) := HG.out.x.cell 0
      have a4 : (w7.alloc (.cells #[.int .i64 i1] 3)).cell? ⟨X, 4, none⟩ = some (.slice none 0 0) := HG.out.x.cell 4
      have af4 : (w7.alloc (.cells #[.int .i64 i1] 3)).frozen? ⟨X, 4, none⟩ = false := HG.out.x.free 4
      obtain ⟨inf3, hi3, hz30, hz31, hz32⟩ := info_parts info3
      have hgs : (w7.alloc (.cells #[.int .i64 i1] 3)).heap.size = w7.heap.size + 1 := by simp
      have HGS := Lib.hid hgs
      clear OG BG hin hgs
      have AE := Lib.hid (fun g cap w9 n xs (ho : World.ownsRow w9 w7.heap.size 3 1 (.slice (some ⟨g, 0, none⟩) n cap) n xs) (hg : (w7.alloc (.cells #[.int .i64 i1] 3)).grownBy w9 (some w7.heap.size)) => app_end HG.out ho hg (by omega) (by omega) hb)
      by_cases hN0 : N = 0
      · have hm0 : min N 15 = 0 := by omega
        generalize min N 15 = m at *
        subst hm0
        have hv := HV0.out rfl
        cases hv
        have hIL : IL = [] := List.length_eq_zero_iff.1 HL.out
        subst hIL
        have A9 := Lib.hid (AE.out w7.heap.size 1 _ 1 [.int .i64 i1] OGh.out ⟨rfl, rfl, rfl, Nat.le_refl _, fun _ _ _ => rfl⟩)
        clear HL IG
        go_wp2_with (at_builtin; refine append_none _ rfl (.tmp 32) (.tmp 33) rfl w7.heap.size rfl rfl ?_; generalize w7.alloc (.cells #[.int .i64 i1] 3) = w9 at *; clear a0 a4 af4; have c0 : w9.cell? ⟨X, 0, none⟩ = some (.int .i64 i1) := A9.out.1.x.cell 0; have c1 : w9.cell? ⟨X, 1, none⟩ = some (.int .i64 i2) := A9.out.1.x.cell 1; have c2 : w9.cell? ⟨X, 2, none⟩ = some (.int .i64 i3) := A9.out.1.x.cell 2; have c3 : w9.cell? ⟨X, 3, none⟩ = some (.int .u64 (n4 : Int)) := A9.out.1.x.cell 3; have c4 : w9.cell? ⟨X, 4, none⟩ = some (.slice none 0 0) := A9.out.1.x.cell 4; have r0 : w9.cell? ⟨Y + 1, 0, none⟩ = some (.int .i64 0) := A9.out.1.r.cell 0; have rf0 := A9.out.1.r.free 0; have r1 : w9.cell? ⟨Y + 1, 1, none⟩ = some (.int .i64 0) := A9.out.1.r.cell 1; have rf1 := A9.out.1.r.free 1; have r2 : w9.cell? ⟨Y + 1, 2, none⟩ = some (.int .i64 0) := A9.out.1.r.cell 2; have rf2 := A9.out.1.r.free 2; have r3 : w9.cell? ⟨Y + 1, 3, none⟩ = some (.int .u64 0) := A9.out.1.r.cell 3; have rf3 := A9.out.1.r.free 3; have r4 : w9.cell? ⟨Y + 1, 4, none⟩ = some (.slice none 0 0) := A9.out.1.r.cell 4; have rf4 := A9.out.1.r.free 4; have cf4 : w9.frozen? ⟨X, 4, none⟩ = false := A9.out.1.x.free 4)
        have OW : OwnI w9 w7.heap.size (.slice (some ⟨w7.heap.size, 0, none⟩) 1 1) [i1] := OGh.out
        have E9 := Lib.hid (hd_fin A9.out (.slice (some ⟨w7.heap.size, 0, none⟩) 1 1) OW (by omega) hb hY.symm)
        clear c0 c1 c2 c3 c4 r0 r1 r2 r3 r4 rf0 rf1 rf2 rf3 rf4 cf4 A9
        generalize (((((w9.setCell ⟨X, 4, none⟩ (.slice (some ⟨w7.heap.size, 0, none⟩) 1 1)).setCell ⟨Y + 1, 0, none⟩ (.int .i64 i1)).setCell ⟨Y + 1, 1, none⟩ (.int .i64 i2)).setCell ⟨Y + 1, 2, none⟩ (.int .i64 i3)).setCell ⟨Y + 1, 3, none⟩ (.int .u64 (n4 : Int))).setCell ⟨Y + 1, 4, none⟩ (.slice (some ⟨w7.heap.size, 0, none⟩) 1 1) = w11 at *
        have q0 : w11.cell? ⟨Y + 1, 0, none⟩ = some (.int .i64 i1) := E9.out.1.cell 0
        have q1 : w11.cell? ⟨Y + 1, 1, none⟩ = some (.int .i64 i2) := E9.out.1.cell 1
        have q2 : w11.cell? ⟨Y + 1, 2, none⟩ = some (.int .i64 i3) := E9.out.1.cell 2
        have q3 : w11.cell? ⟨Y + 1, 3, none⟩ = some (.int .u64 (n4 : Int)) := E9.out.1.cell 3
        have q4 : w11.cell? ⟨Y + 1, 4, none⟩ = some (.slice (some ⟨w7.heap.size, 0, none⟩) 1 1) := E9.out.1.cell 4
        refine bodyPost_ret (by simp [results, Try.results24, go_sem, q0, q1, q2, q3, q4]; try rfl) rfl ?_
        obtain ⟨_, e2, e3, e4⟩ := E9.out
        obtain ⟨qa, qc, qe, qi, ql⟩ := e4.intsB
        refine ⟨qa, qc, ?_, by rw [HR.out]; exact qi.low hY7, by rw [HR.out]; exact ql, by rw [HR.out]; exact e2, e3⟩
        rw [HR.out, qe]
        try rfl
      · have hm0 : 0 < min N 15 := by omega
        have hm15 : min N 15 ≤ 15 := by omega
        generalize min N 15 = m at *
        obtain ⟨gb, go, rfl, hgb, hc0⟩ := IG.out 0 (by rw [HL.out]; exact hm0)
        have NEWS : Hid (∀ j u, (IL.map (Value.int .i64))[j]? = some u → (w7.alloc (.cells #[.int .i64 i1] 3)).cell? ((⟨gb, go, none⟩ : Addr).add j) = some u) := Lib.hid (news_ints IG.out)
        have ONE : Hid (∀ u ∈ IL.map (Value.int .i64), u.oneCell' = true) := Lib.hid (by
          intro u hu
          obtain ⟨x, _, rfl⟩ := List.mem_map.1 hu
          rfl)
        clear hc0
        go_wp2_with (at_builtin; refine wpList_append_lies _ rfl (.tmp 32) (.tmp 33) 44 rfl w7.heap.size 3 inf3 (.int .i64 0) 1 8 Try.underlying44 hi3 hz30 hz31 hz32 rfl (by decide) (.slice (some ⟨w7.heap.size, 0, none⟩) 1 1) 1 [.int .i64 i1] rfl OGh.out ⟨gb, go, none⟩ m vc (IL.map (Value.int .i64)) rfl (by rw [List.length_map, HL.out, Nat.mul_one]) NEWS.out ONE.out hm0 (by unfold maxLen; omega) (by omega) (by rw [HGS.out]; omega) _ rfl ?_; intro g9 cap9 w9 ho9 hg9 _ hl9; have A9 := Lib.hid (AE.out g9 cap9 w9 _ _ ho9 hg9); have c0 : w9.cell? ⟨X, 0, none⟩ = some (.int .i64 i1) := A9.out.1.x.cell 0; have c1 : w9.cell? ⟨X, 1, none⟩ = some (.int .i64 i2) := A9.out.1.x.cell 1; have c2 : w9.cell? ⟨X, 2, none⟩ = some (.int .i64 i3) := A9.out.1.x.cell 2; have c3 : w9.cell? ⟨X, 3, none⟩ = some (.int .u64 (n4 : Int)) := A9.out.1.x.cell 3; have c4 : w9.cell? ⟨X, 4, none⟩ = some (.slice none 0 0) := A9.out.1.x.cell 4; have r0 : w9.cell? ⟨Y + 1, 0, none⟩ = some (.int .i64 0) := A9.out.1.r.cell 0; have rf0 := A9.out.1.r.free 0; have r1 : w9.cell? ⟨Y + 1, 1, none⟩ = some (.int .i64 0) := A9.out.1.r.cell 1; have rf1 := A9.out.1.r.free 1; have r2 : w9.cell? ⟨Y + 1, 2, none⟩ = some (.int .i64 0) := A9.out.1.r.cell 2; have rf2 := A9.out.1.r.free 2; have r3 : w9.cell? ⟨Y + 1, 3, none⟩ = some (.int .u64 0) := A9.out.1.r.cell 3; have rf3 := A9.out.1.r.free 3; have r4 : w9.cell? ⟨Y + 1, 4, none⟩ = some (.slice none 0 0) := A9.out.1.r.cell 4; have rf4 := A9.out.1.r.free 4; have cf4 : w9.frozen? ⟨X, 4, none⟩ = false := A9.out.1.x.free 4; have OW9 : Hid (OwnI w9 w7.heap.size (.slice (some ⟨g9, 0, none⟩) (1 + m) cap9) (i1 :: IL)) := Lib.hid (own_cons HL.out ho9); clear ho9 hg9 hl9 AE NEWS ONE OGh HGS)
        have E9 := Lib.hid (hd_fin A9.out (.slice (some ⟨g9, 0, none⟩) (1 + m) cap9) OW9.out (by omega) hb hY.symm)
        clear c0 c1 c2 c3 c4 r0 r1 r2 r3 r4 rf0 rf1 rf2 rf3 rf4 cf4 A9
        generalize (((((w9.setCell ⟨X, 4, none⟩ (.slice (some ⟨g9, 0, none⟩) (1 + m) cap9)).setCell ⟨Y + 1, 0, none⟩ (.int .i64 i1)).setCell ⟨Y + 1, 1, none⟩ (.int .i64 i2)).setCell ⟨Y + 1, 2, none⟩ (.int .i64 i3)).setCell ⟨Y + 1, 3, none⟩ (.int .u64 (n4 : Int))).setCell ⟨Y + 1, 4, none⟩ (.slice (some ⟨g9, 0, none⟩) (1 + m) cap9) = w11 at *
        have q0 : w11.cell? ⟨Y + 1, 0, none⟩ = some (.int .i64 i1) := E9.out.1.cell 0
        have q1 : w11.cell? ⟨Y + 1, 1, none⟩ = some (.int .i64 i2) := E9.out.1.cell 1
        have q2 : w11.cell? ⟨Y + 1, 2, none⟩ = some (.int .i64 i3) := E9.out.1.cell 2
        have q3 : w11.cell? ⟨Y + 1, 3, none⟩ = some (.int .u64 (n4 : Int)) := E9.out.1.cell 3
        have q4 : w11.cell? ⟨Y + 1, 4, none⟩ = some (.slice (some ⟨g9, 0, none⟩) (1 + m) cap9) := E9.out.1.cell 4
        refine bodyPost_ret (by simp [results, Try.results24, go_sem, q0, q1, q2, q3, q4]; try rfl) rfl ?_
        obtain ⟨_, e2, e3, e4⟩ := E9.out
        obtain ⟨qa, qc, qe, qi, ql⟩ := e4.intsB
        refine ⟨qa, qc, ?_, by rw [HR.out]; exact qi.low hY7, by rw [HR.out]; exact ql, by rw [HR.out]; exact e2, e3⟩
        rw [HR.out, qe]
        try rfl
end Go.Proofs.Ytifdljdnpdefgaa
