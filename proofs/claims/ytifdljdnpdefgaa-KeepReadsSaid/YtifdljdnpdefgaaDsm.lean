/-
  THE DOCUMENT'S Read: its small calls, and what lies in memory in its rounds.
-/
import Derived.Test.YtifdljdnpdefgaaBkp
namespace Go.Proofs.Ytifdljdnpdefgaa
open Go.RowKit
theorem rn_any (t : Tp) (hs : t.1.size ≤ 281474976710656) (w : World) : Calls Try.prog 26 #[.agg #[.string t.1, .int .i64 t.2]] w fun r w' => r = .returned (.tuple #[.agg #[.string (pn t).2.1, .int .i64 (pn t).2.2], .int .u64 ((pn t).1 : Int)]) ∧ Below w.heap.size w w' := Bt.rnumT_any t.1 t.2 hs w
set_option maxHeartbeats 2000000 in
theorem lim_any (n most : Nat) (hm : most ≤ 9223372036854775807) (w : World) : Calls Try.prog 27 #[.int .u64 (n : Int), .int .u64 (most : Int)] w fun e w' => e = .returned (.int .i64 (limN n most)) ∧ w = w' := by
  by_cases h : most < n
  · have e : limN n most = -1 := by unfold limN; rw [if_pos h]
    have h1 : (most : Int) < (n : Int) := by omega
    rw [e]
    go_enter Try.func27, Try.ntmps27
    go_wp2_with fail
    go_ret
    exact ⟨rfl, rfl⟩
  · have e : limN n most = n := by unfold limN; rw [if_neg h]
    have h1 : ¬ (most : Int) < (n : Int) := by omega
    rw [e]
    go_enter Try.func27, Try.ntmps27
    go_wp2_with fail
    go_ret
    exact ⟨rfl, rfl⟩
theorem empty_of {s : ByteArray} (h : s.size = 0) : s = ⟨#[]⟩ := ByteArray.ext (Array.eq_empty_of_size_eq_zero h)
set_option maxHeartbeats 2000000 in
theorem rend_any (s : ByteArray) (e : Int) (w : World) : Calls Try.prog 28 #[.agg #[.string s, .int .i64 e]] w fun r w' => r = .returned (.int .i64 (Bt.endE s e)) ∧ Below w.heap.size w w' := by
  have bA := Lib.hid ((Below.refl w.heap.size w).alloc (Nat.le_refl _) (.cells #[.string s, .int .i64 e] 60))
  have K := Blk.new w 60 #[.string s, .int .i64 e]
  have c0 : (w.alloc (.cells #[.string s, .int .i64 e] 60)).cell? ⟨w.heap.size, 0, none⟩ = some (.string s) := K.cell 0
  have c1 : (w.alloc (.cells #[.string s, .int .i64 e] 60)).cell? ⟨w.heap.size, 1, none⟩ = some (.int .i64 e) := K.cell 1
  clear K
  by_cases he : e = 0
  · subst he
    by_cases hs : s.size = 0
    · have e0 := empty_of hs
      subst e0
      go_enter Try.func28, Try.ntmps28
      go_wp2_with fail
      go_ret
      exact ⟨rfl, bA.out⟩
    · have R : Bt.endE s 0 = 3 := by unfold Bt.endE; rw [if_neg (by simp), if_neg hs]
      have hne : s.toList.isEmpty = false := by
        rw [Lib.toList_data, Bt.head_drop s (by omega)]; rfl
      have hne2 : (!s.toList.isEmpty) = true := by rw [hne]; rfl
      rw [R]
      go_enter Try.func28, Try.ntmps28
      go_wp2_with fail
      go_ret
      exact ⟨rfl, bA.out⟩
  · have R : Bt.endE s e = e := by unfold Bt.endE; rw [if_pos he]
    have h1 : (e == 0) = false := by simpa using he
    rw [R]
    go_enter Try.func28, Try.ntmps28
    go_wp2_with fail
    go_ret
    exact ⟨rfl, bA.out⟩
theorem dRuns_fail {j : Nat} {t : Tp} {X : List Rn × Tp} (h : dRuns j t = some X) (hd : dRun X.2 = none) : ∀ m, j < m → dRuns m t = none
  | 0, hm => by omega
  | m + 1, hm => by
    rw [dRuns]
    by_cases e : j = m
    · subst e
      rw [h]
      show (dRun X.2).map _ = none
      rw [hd]; rfl
    · rw [dRuns_fail h hd m (by omega)]; rfl
theorem dIter_fail {q : Nat} {p : Int} {t : Tp} {X : List Int × Int × Tp} (h : dIter q p t = some X) (hd : dStep X = none) : ∀ n, q < n → dIter n p t = none
  | 0, hn => by omega
  | n + 1, hn => by
    rw [dIter]
    by_cases e : q = n
    · subst e
      rw [h]
      exact hd
    · rw [dIter_fail h hd n (by omega)]; rfl
/-- what the document's Read has in memory in its rounds -/
structure Dx (w wq : World) (Y N T X B : Nat) (c0 c1 c2 : Int) (t : Tp) (v : Value) (M : List RC) : Prop where
  y : Blk wq Y 34 #[.int .i64 0, .int .i64 0, .int .i64 0, .slice none 0 0]
  n : Blk wq N 34 #[.int .i64 0, .int .i64 0, .int .i64 0, .slice none 0 0]
  x : Blk wq X 34 #[.int .i64 c0, .int .i64 c1, .int .i64 c2, v]
  b : Blk wq T 60 #[.string t.1, .int .i64 t.2]
  own : wq.ownsRow B 51 5 v M.length (cellsR M)
  p : PksB wq B M
  w0 : Below w.heap.size w wq
  h0 : w.heap.size ≤ Y
  h1 : Y < N
  h2 : N < T
  h3 : T < X
  h4 : X < B
  h5 : B ≤ wq.heap.size
section
variable {w wq w' : World} {Y N T X B : Nat} {c0 c1 c2 : Int} {t : Tp} {v : Value} {M : List RC}
theorem Dx.below (h : Dx w wq Y N T X B c0 c1 c2 t v M) (k : Below wq.heap.size wq w') : Dx w w' Y N T X B c0 c1 c2 t v M := by
  refine ⟨h.y.over k, h.n.over k, h.x.over k, h.b.over k, ?_, ?_, h.w0.trans (k.mono h.w0.size), h.h0, h.h1, h.h2, h.h3, h.h4, Nat.le_trans h.h5 k.size⟩
  · refine World.ownsRow.kept (row := none) h.own ⟨k.os, k.tape, k.output, k.size, fun q hq _ => k.block q hq⟩ ?_
    cases v.ownBlock <;> simp
  · intro y hy
    exact ⟨(h.p y hy).1.keep (fun g cur hg hh => k.block g (Array.getElem?_eq_some_iff.1 hh).1), (h.p y hy).2⟩
/-- the tape's box is set -/
theorem Dx.tape (h : Dx w wq Y N T X B c0 c1 c2 t v M) (s : ByteArray) (e : Int) : Dx w ((wq.setCell ⟨T, 0, none⟩ (.string s)).setCell ⟨T, 1, none⟩ (.int .i64 e)) Y N T X B c0 c1 c2 (s, e) v M := by
  have f : Fr wq ((wq.setCell ⟨T, 0, none⟩ (.string s)).setCell ⟨T, 1, none⟩ (.int .i64 e)) (fun q => q = T) := ((Fr.refl wq (fun q => q = T)).set T 0 _ (.inl rfl)).set T 1 _ (.inl rfl)
  have := h.h0
  have := h.h1
  have := h.h2
  have := h.h3
  have := h.h4
  exact ⟨h.y.fr f (by omega), h.n.fr f (by omega), h.x.fr f (by omega), (h.b.set 0 _).set 1 _, Fr.own h.own f (fun q e => by omega), fun y hy => ⟨(h.p y hy).1.keep (fun g cur hg hh => f.block g (Array.getElem?_eq_some_iff.1 hh).1 (by omega)), (h.p y hy).2⟩, h.w0.trans (f.below (fun q e => by omega) h.w0.size), h.h0, h.h1, h.h2, h.h3, h.h4, Nat.le_trans h.h5 f.size⟩
/-- a block behind the fixed ones is set, that is neither the runs' nor picks' -/
theorem Dx.off (h : Dx w wq Y N T X B c0 c1 c2 t v M) {R : Nat} {ty : TypeId} {cs : Array Value} (hR : Blk wq R ty cs) (hne : v.ownBlock ≠ some R) (h3 : ty ≠ 3) (hB : B ≤ R) (i : Nat) (u : Value) : Dx w (wq.setCell ⟨R, i, none⟩ u) Y N T X B c0 c1 c2 t v M := by
  have f := fr_set wq R i u
  have := h.h0
  have := h.h1
  have := h.h2
  have := h.h3
  have := h.h4
  refine ⟨h.y.fr f (by omega), h.n.fr f (by omega), h.x.fr f (by omega), h.b.fr f (by omega), ?_, fun y hy => ⟨(h.p y hy).1.keep (fun g cur hg hh => f.block g (Array.getElem?_eq_some_iff.1 hh).1 (fun e => ?_)), (h.p y hy).2⟩, h.w0.trans (f.below (fun q e => by omega) h.w0.size), h.h0, h.h1, h.h2, h.h3, h.h4, Nat.le_trans h.h5 f.size⟩
  · exact ownsRow_setCell_other h.own (fun e => hne (by first | exact e | exact e.symm)) _
  · subst e
    unfold Blk at hR
    rw [hh] at hR
    cases hR
    exact h3 rfl
/-- what is off the tape's box stays, as long as it was there -/
theorem Dx.frT (h : Dx w wq Y N T X B c0 c1 c2 t v M) (f : Fr wq w' (fun q => q = T)) {t' : Tp} (hb : Blk w' T 60 #[.string t'.1, .int .i64 t'.2]) : Dx w w' Y N T X B c0 c1 c2 t' v M := by
  have := h.h0
  have := h.h1
  have := h.h2
  have := h.h3
  have := h.h4
  exact ⟨h.y.fr f (by omega), h.n.fr f (by omega), h.x.fr f (by omega), hb, Fr.own h.own f (fun q e => by omega), fun y hy => ⟨(h.p y hy).1.keep (fun g cur hg hh => f.block g (Array.getElem?_eq_some_iff.1 hh).1 (by omega)), (h.p y hy).2⟩, h.w0.trans (f.below (fun q e => by omega) h.w0.size), h.h0, h.h1, h.h2, h.h3, h.h4, Nat.le_trans h.h5 f.size⟩
theorem Dx.ne (h : Dx w wq Y N T X B c0 c1 c2 t v M) : v.ownBlock ≠ some wq.heap.size := fun e => by
  have := (World.ownsRow.lt h.own wq.heap.size e).2
  omega
theorem Dx.push {w3 : World} {v3 : Value} (h : Dx w wq Y N T X B c0 c1 c2 t v M) (rb rt rs rn : Int) (q : Option Addr) (P : List Int) (c : Nat) (hi : IntsB wq B q P) (hl : P.length ≤ c)
    (ho : w3.ownsRow B 51 5 v3 (M.length + 1) (cellsR M ++ [.int .i64 rb, .int .i64 rt, .int .i64 rs, .int .u64 rn, .slice q P.length c]))
    (hg : (wq.alloc (.cells #[.int .i64 rb, .int .i64 rt, .int .i64 rs, .int .u64 rn, .slice q P.length c] 51)).grownBy w3 v.ownBlock) :
    Blk w3 X 34 #[.int .i64 c0, .int .i64 c1, .int .i64 c2, v] ∧ Dx w (w3.setCell ⟨X, 3, none⟩ v3) Y N T X B c0 c1 c2 t v3 (M ++ [⟨⟨rb, rt, rs, rn, P⟩, q, c⟩]) := by
  have := h.h0
  have := h.h1
  have := h.h2
  have := h.h3
  have := h.h4
  have := h.h5
  have ow : ∀ g, v.ownBlock = some g → B ≤ g ∧ ∃ cur, wq.heap[g]? = some (.cells cur 51 (0, 0)) := fun g hg => by
    refine ⟨(World.ownsRow.lt h.own g hg).1, ?_⟩
    rcases h.own.2 with ⟨rfl, _⟩ | ⟨g', cap, cur, rfl, _, hh, _⟩
    · cases hg
    · cases hg
      exact ⟨cur, hh⟩
  have bl : ∀ g, g < wq.heap.size → v.ownBlock ≠ some g → w3.heap[g]? = wq.heap[g]? := fun g hg2 hn => by
    rw [hg.block g (by rw [size_al]; omega) (fun e => hn e.symm)]
    exact ((Below.refl wq.heap.size wq).alloc (Nat.le_refl _) _).block g hg2
  have lo : ∀ g, g < B → w3.heap[g]? = wq.heap[g]? := fun g hg2 => bl g (by omega) (fun e => by have := (ow g e).1; omega)
  have hs : wq.heap.size ≤ w3.heap.size := by have := hg.size; rw [size_al] at this; omega
  have kp : ∀ {a : Option Addr} {xs : List Int}, IntsB wq B a xs → IntsB w3 B a xs := fun hx => hx.keep (fun g cur hgB hh => bl g (Array.getElem?_eq_some_iff.1 hh).1 (fun e => by
    obtain ⟨_, cur2, h2⟩ := ow g e
    rw [hh] at h2
    cases h2))
  have kx : Blk w3 X 34 #[.int .i64 c0, .int .i64 c1, .int .i64 c2, v] := (lo X (by omega)).trans h.x
  have f := fr_set w3 X 3 v3
  refine ⟨kx, kx.set 3 _ |> fun k => ⟨Blk.fr ((lo Y (by omega)).trans h.y) f (by omega), Blk.fr ((lo N (by omega)).trans h.n) f (by omega), k, Blk.fr ((lo T (by omega)).trans h.b) f (by omega), ?_, ?_, ?_, h.h0, h.h1, h.h2, h.h3, h.h4, by have := f.size; omega⟩⟩
  · rw [List.length_append, cellsR_one]
    exact Fr.own ho f (fun q e => by omega)
  · intro y hy
    have fk : ∀ {a : Option Addr} {xs : List Int}, IntsB wq B a xs → IntsB (w3.setCell ⟨X, 3, none⟩ v3) B a xs := fun hx => (kp hx).keep (fun g cur hgB hh => f.block g (Array.getElem?_eq_some_iff.1 hh).1 (by omega))
    rcases List.mem_append.1 hy with hy | hy
    · exact ⟨fk (h.p y hy).1, (h.p y hy).2⟩
    · simp only [List.mem_singleton] at hy
      subst hy
      exact ⟨fk hi, hl⟩
  · have b3 : Below w.heap.size w w3 := ⟨hg.os.trans h.w0.os, hg.tape.trans h.w0.tape, hg.output.trans h.w0.output, Nat.le_trans h.w0.size hs, fun g hg2 => (lo g (by omega)).trans (h.w0.block g hg2)⟩
    exact b3.trans (f.below (fun q e => by omega) b3.size)
theorem Dx.form (h : Dx w wq Y N T X B c0 c1 c2 t v M) : ∃ a c, v = .slice a M.length c := by
  rcases h.own.2 with ⟨rfl, e⟩ | ⟨g, cap, cur, rfl, _⟩
  · exact ⟨none, 0, by rw [e]⟩
  · exact ⟨_, _, rfl⟩
theorem Dx.rns (h : Dx w wq Y N T X B c0 c1 c2 t v M) {va : Option Addr} {vc : Nat} (hv : v = .slice va M.length vc) : Rns wq va (M.map RC.r) := by
  refine rns_of ?_ h.p.pks
  have ho := h.own
  rcases ho.2 with ⟨e, e0⟩ | ⟨g, cap, cur, e, _⟩
  · intro p hp; omega
  · subst hv
    cases e
    exact rcs_own rfl ho
theorem Dx.end (h : Dx w wq Y N T X B c0 c1 c2 t v M) (u0 u1 u2 u3 : Value) :
    Blk ((((wq.setCell ⟨Y, 0, none⟩ u0).setCell ⟨Y, 1, none⟩ u1).setCell ⟨Y, 2, none⟩ u2).setCell ⟨Y, 3, none⟩ u3) Y 34 #[u0, u1, u2, u3] ∧ Below w.heap.size w ((((wq.setCell ⟨Y, 0, none⟩ u0).setCell ⟨Y, 1, none⟩ u1).setCell ⟨Y, 2, none⟩ u2).setCell ⟨Y, 3, none⟩ u3) ∧
    (∀ {va : Option Addr} {vc : Nat}, v = .slice va M.length vc → Rns ((((wq.setCell ⟨Y, 0, none⟩ u0).setCell ⟨Y, 1, none⟩ u1).setCell ⟨Y, 2, none⟩ u2).setCell ⟨Y, 3, none⟩ u3) va (M.map RC.r)) := by
  have f : Fr wq ((((wq.setCell ⟨Y, 0, none⟩ u0).setCell ⟨Y, 1, none⟩ u1).setCell ⟨Y, 2, none⟩ u2).setCell ⟨Y, 3, none⟩ u3) (fun q => q = Y) := ((((Fr.refl wq (fun q => q = Y)).set Y 0 _ (.inl rfl)).set Y 1 _ (.inl rfl)).set Y 2 _ (.inl rfl)).set Y 3 _ (.inl rfl)
  have := h.h0
  have := h.h1
  have := h.h2
  have := h.h3
  have := h.h4
  refine ⟨(((h.y.set 0 _).set 1 _).set 2 _).set 3 _, h.w0.trans (f.below (fun q e => by omega) h.w0.size), fun {va vc} hv => ?_⟩
  have ho : World.ownsRow ((((wq.setCell ⟨Y, 0, none⟩ u0).setCell ⟨Y, 1, none⟩ u1).setCell ⟨Y, 2, none⟩ u2).setCell ⟨Y, 3, none⟩ u3) B 51 5 v M.length (cellsR M) := Fr.own h.own f (fun q e => by omega)
  have hp : Pks ((((wq.setCell ⟨Y, 0, none⟩ u0).setCell ⟨Y, 1, none⟩ u1).setCell ⟨Y, 2, none⟩ u2).setCell ⟨Y, 3, none⟩ u3) M := PksB.pks (fun y hy => ⟨(h.p y hy).1.keep (fun g cur hg hh => f.block g (Array.getElem?_eq_some_iff.1 hh).1 (by omega)), (h.p y hy).2⟩ : PksB _ B M)
  refine rns_of ?_ hp
  rcases ho.2 with ⟨e, e0⟩ | ⟨g, cap, cur, e, _⟩
  · intro p hp; omega
  · subst hv
    cases e
    exact rcs_own rfl ho
end
end Go.Proofs.Ytifdljdnpdefgaa
