/-
  WHAT THE ROWS REST ON, part 3: Tfr Tad Tnx Tld BRnum BWrites BFront BText BTape BReals Enc What.
-/
import Derived.Deep.AppendLies
import Derived.Deep.RegionLaw
import Derived.Laws.OwnMore
import Derived.Laws.NewBlocks
import Derived.Deep.Cut
import Derived.Deep.RegionHeld3
import Derived.Laws.AppendOwn
import Derived.OwnWalk
import Derived.Lib.SmallJoins
import Derived.WalkSmall
import Derived.Laws.Externs
import Derived.Test.YtbghjcfepjbppaaPart2
/-
  FRAMES BY BLOCKS; what was added to a teller.
-/
namespace Go.Proofs.Ytbghjcfepjbppaa
open Go.RowKit
/-- blocks off P are as they were -/
structure Fr (w w' : World) (P : Nat → Prop) : Prop where
  os : w'.os = w.os
  tape : w'.tape = w.tape
  output : w'.output = w.output
  size : w.heap.size ≤ w'.heap.size
  block : ∀ q, q < w.heap.size → ¬ P q → w'.heap[q]? = w.heap[q]?
theorem Fr.refl (w : World) (P : Nat → Prop) : Fr w w P := ⟨rfl, rfl, rfl, Nat.le_refl _, fun _ _ _ => rfl⟩
theorem Fr.trans {a b c : World} {P Q R : Nat → Prop} (h : Fr a b P) (k : Fr b c Q) (hP : ∀ q, q < a.heap.size → P q → R q) (hQ : ∀ q, q < a.heap.size → Q q → R q) : Fr a c R :=
  ⟨k.os.trans h.os, k.tape.trans h.tape, k.output.trans h.output, Nat.le_trans h.size k.size, fun q hq hR => (k.block q (Nat.lt_of_lt_of_le hq h.size) (fun hh => hR (hQ q hq hh))).trans (h.block q hq (fun hh => hR (hP q hq hh)))⟩
theorem Fr.of_grown {w w' : World} {r : Option Nat} (h : w.grownBy w' r) : Fr w w' (fun q => some q = r) := ⟨h.os, h.tape, h.output, h.size, fun q hq hne => h.block q hq hne⟩
theorem Fr.of_below {w w' : World} (h : Below w.heap.size w w') (P : Nat → Prop) : Fr w w' P := ⟨h.os, h.tape, h.output, h.size, fun q hq _ => h.block q hq⟩
theorem Fr.mono {w w' : World} {P Q : Nat → Prop} (h : Fr w w' P) (hPQ : ∀ q, q < w.heap.size → P q → Q q) : Fr w w' Q := ⟨h.os, h.tape, h.output, h.size, fun q hq hn => h.block q hq (fun hh => hn (hPQ q hq hh))⟩
theorem Fr.below {w w' : World} {B : Nat} {P : Nat → Prop} (h : Fr w w' P) (hP : ∀ q, P q → B ≤ q) (hB : B ≤ w.heap.size) : Below B w w' := ⟨h.os, h.tape, h.output, h.size, fun q hq => h.block q (Nat.lt_of_lt_of_le hq hB) (fun hh => by have := hP q hh; omega)⟩
theorem fr_set (w : World) (g i : Nat) (u : Value) : Fr w (w.setCell ⟨g, i, none⟩ u) (fun q => q = g) :=
  ⟨rfl, rfl, rfl, by simp [World.setCell], fun q _ hne => Below.heap_setCell _ _ _ _ hne⟩
theorem fr_drew (w : World) (P : Nat → Prop) : Fr w w.drew P := ⟨rfl, rfl, rfl, Nat.le_refl _, fun _ _ _ => rfl⟩
theorem Fr.on {w w' w2 : World} {P : Nat → Prop} (h : Fr w w' P) (k : Fr w' w2 P) : Fr w w2 P := h.trans k (fun _ _ h => h) (fun _ _ h => h)
theorem Fr.set {w w' : World} {P : Nat → Prop} (h : Fr w w' P) (g i : Nat) (u : Value) (hg : P g ∨ w.heap.size ≤ g) : Fr w (w'.setCell ⟨g, i, none⟩ u) P :=
  h.trans (fr_set w' g i u) (fun _ _ h => h) (fun q hq e => by subst e; rcases hg with h | h; exact h; omega)
theorem Fr.al {w w' : World} {P : Nat → Prop} (h : Fr w w' P) (o : Obj) : Fr w (w'.alloc o) P :=
  h.on (Fr.of_below ((Below.refl w'.heap.size w').alloc (Nat.le_refl _) o) P)
theorem Blk.fr {w w' : World} {g : Nat} {t : TypeId} {cs : Array Value} {P : Nat → Prop} (h : Blk w g t cs) (hf : Fr w w' P) (hP : ¬ P g) : Blk w' g t cs := (hf.block g h.lt hP).trans h
theorem Fr.own {w w' : World} {P : Nat → Prop} {B n size : Nat} {e : TypeId} {v : Value} {xs : List Value} (h : w.ownsRow B e size v n xs) (f : Fr w w' P) (hP : ∀ q, v.ownBlock = some q → ¬ P q) : w'.ownsRow B e size v n xs := by
  refine ⟨h.1, ?_⟩
  rcases h.2 with hn | ⟨g, cap, cur, rfl, hb, hgg, rest⟩
  · exact .inl hn
  · refine .inr ⟨g, cap, cur, rfl, hb, ?_, rest⟩
    rw [f.block g (Array.getElem?_eq_some_iff.1 hgg).1 (hP g rfl)]
    exact hgg

theorem Fr.cell {w w' : World} {P : Nat → Prop} (f : Fr w w' P) {g i : Nat} {u : Value} (hg : g < w.heap.size) (hP : ¬ P g) (h : w.cell? ⟨g, i, none⟩ = some u) : w'.cell? ⟨g, i, none⟩ = some u := by
  rw [← h]
  simp only [World.cell?, f.block g hg hP]
theorem Flds.fr {w w' : World} {a : Option Addr} {L : List Fld} {P : Nat → Prop} (h : Flds w a L) (f : Fr w w' P) (hP : ∀ ad, a = some ad → ¬ P ad.block) : Flds w' a L := fun p hp => by
  obtain ⟨g, o, e, hl, c0, c1, c2, c3, c4⟩ := h p hp
  have hn := hP _ e
  exact ⟨g, o, e, Nat.lt_of_lt_of_le hl f.size, f.cell hl hn c0, f.cell hl hn c1, f.cell hl hn c2, f.cell hl hn c3, f.cell hl hn c4⟩
theorem Fr.undrew {w v : World} {P : Nat → Prop} (h : Fr w.drew v P) : Fr w v P := ⟨h.os, h.tape, h.output, h.size, h.block⟩
/-- what a copy of an event leaves -/
def CopR (w : World) (a b c : Int) (k : ByteArray) (L : List Fld) (e : Ending) (w' : World) : Prop :=
  ∃ p cp, e = .returned (evV a b c k (.slice p L.length cp)) ∧ Flds w' p L ∧ (∀ ad, p = some ad → w.heap.size ≤ ad.block ∧ ad.block < w'.heap.size) ∧ Below w.heap.size w w'
theorem copR_nil (a b c : Int) (k : ByteArray) (hk : k.size ≤ 281474976710656) (w : World) : Calls Try.prog 43 #[evV a b c k (.slice none 0 0)] w (CopR w a b c k []) := by
  refine (copied_nil a b c k hk w).mono ?_
  rintro e w' ⟨rfl, b⟩
  exact ⟨none, 0, rfl, (fun i hi => by simp at hi), (fun ad h => by cases h), b⟩
def encE (a b c : Int) (k : ByteArray) (f : Value) : List Value := [.int .i64 a, .int .i64 b, .int .i64 c, .string k, f]
/-- what Add leaves -/
def AddR (w : World) (t B : Nat) (nodes to id sq : Int) (wv : Value) (n : Nat) (cs : List Value) (rv : Value) (a b c : Int) (k : ByteArray) (L : List Fld) (e : Ending) (w' : World) : Prop :=
  e = .returned (.int .i64 0) ∧ ∃ g cap p cp, Blk w' t 98 (tel nodes to id sq (.slice (some ⟨g, 0, none⟩) (n + 1) cap) rv) ∧ w'.ownsRow B 31 5 (.slice (some ⟨g, 0, none⟩) (n + 1) cap) (n + 1) (cs ++ encE a b c k (.slice p L.length cp)) ∧ Flds w' p L ∧ (∀ ad, p = some ad → w.heap.size ≤ ad.block ∧ ad.block < w'.heap.size ∧ ad.block ≠ g) ∧ Fr w w' (fun q => q = t ∨ wv.ownBlock = some q) ∧ (wv.ownBlock = some g ∨ w.heap.size ≤ g)
/-- the end of Add -/
theorem add_end {w v w4 : World} {t B : Nat} {nodes to id sq : Int} {wv : Value} {n : Nat} {cs : List Value} {rv : Value} {a b c : Int} {k : ByteArray} {L : List Fld} {p : Option Addr} {cp g cap : Nat} (o : Obj)
    (T : Blk w t 98 (tel nodes to id sq wv rv)) (hB : t < B) (hw : ∀ q, wv.ownBlock = some q → B ≤ q ∧ q < w.heap.size) (bv : Below w.heap.size w v) (hF : Flds v p L) (hp : ∀ ad, p = some ad → w.heap.size ≤ ad.block ∧ ad.block < v.heap.size)
    (ho : w4.ownsRow B 31 5 (.slice (some ⟨g, 0, none⟩) (n + 1) cap) (n + 1) (cs ++ encE a b c k (.slice p L.length cp))) (hg : (v.alloc o).grownBy w4 wv.ownBlock) (hat : wv.ownBlock = some g ∨ g = (v.alloc o).heap.size) :
    AddR w t B nodes to id sq wv n cs rv a b c k L (.returned (.int .i64 0)) (w4.setCell ⟨t, 4, none⟩ (.slice (some ⟨g, 0, none⟩) (n + 1) cap)) ∧ w4.frozen? ⟨t, 4, none⟩ = false ∧ w4.cell? ⟨t, 4, none⟩ = some wv := by
  have hlt := T.lt
  have f1 : Fr w (v.alloc o) (fun q => q = t ∨ wv.ownBlock = some q) := (Fr.of_below bv _).al o
  have f2 : Fr (v.alloc o) w4 (fun q => wv.ownBlock = some q) := (Fr.of_grown hg).mono (fun q _ h => h.symm)
  have f3 : Fr w w4 (fun q => wv.ownBlock = some q) := (((Fr.of_below bv _).al o)).on f2
  have T4 : Blk w4 t 98 (tel nodes to id sq wv rv) := T.fr f3 (fun e => by have := (hw _ e).1; omega)
  have hgB : B ≤ g := (World.ownsRow.lt ho g rfl).1
  have hvo : (v.alloc o).heap.size = v.heap.size + 1 := by simp
  have hbvs := bv.size
  refine ⟨⟨rfl, g, cap, p, cp, T4.set 4 _, ?_, ?_, ?_, ?_, hat.imp (fun e => e) (fun e => by omega)⟩, T4.free 4, by rw [T4.cell]; rfl⟩
  · exact ownsRow_setCell_other ho (by simp [Value.ownBlock]; omega) _
  · have fa : Fr v (v.alloc o) (fun q => wv.ownBlock = some q) := (Fr.refl v _).al o
    have F4 : Flds w4 p L := hF.fr (fa.on f2) (fun ad e hh => by have := (hw _ hh).2; have := (hp ad e).1; omega)
    exact F4.fr (fr_set w4 t 4 _) (fun ad e hh => by have := (hp ad e).1; omega)
  · intro ad e
    refine ⟨(hp ad e).1, ?_, by have h0 := hp ad e; rcases hat with e' | e'; (have := (hw g e').2; omega); omega⟩
    have h1 := (hp ad e).2
    have h2 := ((Fr.refl v (fun q => wv.ownBlock = some q)).al o).on f2
    have := h2.size
    have h3 : (w4.setCell ⟨t, 4, none⟩ (.slice (some ⟨g, 0, none⟩) (n + 1) cap)).heap.size = w4.heap.size := by simp
    omega
  · exact (f3.mono (fun q _ h => .inr h)).set t 4 _ (.inl (.inl rfl))
end Go.Proofs.Ytbghjcfepjbppaa
/-
  A TELLER's Add.
-/
namespace Go.Proofs.Ytbghjcfepjbppaa
open Go.RowKit
theorem info31 : (Try.prog.info? 31).map (fun i => (i.zero, i.size, i.bytes)) = some (some (.agg #[.int .i64 0, .int .i64 0, .int .i64 0, .string ⟨#[]⟩, .slice none 0 0]), 5, 64) := by kernel_rfl
theorem one_encE (a b c : Int) (k : ByteArray) (p : Option Addr) (n cp : Nat) : ∀ u ∈ encE a b c k (.slice p n cp), u.oneCell' = true := by
  intro u hu
  simp only [encE, List.mem_cons, List.not_mem_nil, or_false] at hu
  rcases hu with rfl | rfl | rfl | rfl | rfl <;> rfl
theorem add_nil (e : Value) (a b c : Int) (k : ByteArray) (f : Value) (he : e = evV a b c k f) (w : World) : Calls Try.prog 11 #[.pointer none, e] w fun r w' => r = .returned (.int .i64 1) ∧ Below w.heap.size w w' := by
  subst he
  have FIN := Lib.hid (fun o => (Below.refl w.heap.size w).alloc (Nat.le_refl _) o)
  unfold evV
  go_enter Try.func11, Try.ntmps11
  go_wp2_with fail
  go_ret
  exact ⟨rfl, FIN.out _⟩
theorem hpp_of {w v : World} {Y a : Nat} (hY : Y ≤ w.heap.size) (h : w.heap.size ≤ a ∧ a < v.heap.size) : Y ≤ a ∧ a < v.heap.size := ⟨Nat.le_trans hY h.1, h.2⟩
set_option maxHeartbeats 4000000 in
set_option maxRecDepth 100000 in
theorem add_ok {w : World} {t B : Nat} {nodes to id sq : Int} {ua : Option Addr} {uc n : Nat} {cs : List Value} {rv : Value} {a b c : Int} {k : ByteArray} {L : List Fld} {p : Option Addr} {cp : Nat}
    (T : Blk w t 98 (tel nodes to id sq (.slice ua n uc) rv)) (hB : t < B) (hBw : B ≤ w.heap.size) (ho : w.ownsRow B 31 5 (.slice ua n uc) n cs) (hn : n < 256)
    (CK : ∀ W, Below w.heap.size w W → Calls Try.prog 41 #[evV 1 1 c k (.slice p L.length cp)] W fun e w' => e = .returned (.int .i64 0) ∧ Below W.heap.size W w')
    (CP : ∀ W, Below w.heap.size w W → Calls Try.prog 43 #[evV 0 0 c k (.slice p L.length cp)] W (CopR W 0 0 c k L)) :
    Calls Try.prog 11 #[.pointer (some ⟨t, 0, none⟩), evV a b c k (.slice p L.length cp)] w (AddR w t B nodes to id sq (.slice ua n uc) n cs rv 0 0 c k L) := by
  obtain ⟨i31, hi, hz0, hz1, hz2⟩ := info_parts info31
  obtain ⟨w1, hw1, K1, B1, hs1⟩ : ∃ w1, w1 = w.alloc (.cells #[.int .i64 a, .int .i64 b, .int .i64 c, .string k, .slice p L.length cp] 31) ∧ Blk w1 w.heap.size 31 #[.int .i64 a, .int .i64 b, .int .i64 c, .string k, .slice p L.length cp] ∧ Below w.heap.size w w1 ∧ w1.heap.size = w.heap.size + 1 :=
    ⟨_, rfl, heap_alloc_new w _, (Below.refl w.heap.size w).alloc (Nat.le_refl _) _, by simp⟩
  have hlt := T.lt
  have hw : ∀ q, (Value.slice ua n uc).ownBlock = some q → B ≤ q ∧ q < w.heap.size := fun q hq => World.ownsRow.lt ho q hq
  have NU := Lib.hid (fun W => numbered_any a b c 1 0 k p L.length cp W (by omega))
  have CKh := Lib.hid CK
  have CPh := Lib.hid CP
  have Th := Lib.hid T
  have K1h := Lib.hid K1
  have B1h := Lib.hid B1
  have W1 := Lib.hid hw1
  have END := Lib.hid (fun (v w4 : World) (p' : Option Addr) (cp' g cap : Nat) (o : Obj) (bv : Below w.heap.size w v) (hF : Flds v p' L) (hp : ∀ ad, p' = some ad → w.heap.size ≤ ad.block ∧ ad.block < v.heap.size) (ho' : w4.ownsRow B 31 5 (.slice (some ⟨g, 0, none⟩) (n + 1) cap) (n + 1) (cs ++ encE 0 0 c k (.slice p' L.length cp'))) (hg : (v.alloc o).grownBy w4 (Value.slice ua n uc).ownBlock) (hat : (Value.slice ua n uc).ownBlock = some g ∨ g = (v.alloc o).heap.size) =>
    add_end (w := w) (v := v) (w4 := w4) (cp := cp') (g := g) (cap := cap) (rv := rv) o T hB hw bv hF hp ho' hg hat)
  have OWN := Lib.hid (fun (v : World) (bv : Below w.heap.size w v) => Fr.own ho (Fr.of_below bv (fun _ => False)) (fun _ _ h => h))
  unfold CopR at CPh
  generalize hQ : AddR w t B nodes to id sq (.slice ua n uc) n cs rv 0 0 c k L = Q at *
  clear T K1 B1 hw1 CK CP ho
  unfold evV at *
  have hLn : Hid (L.length = L.length) := Lib.hid rfl
  generalize hLL : L.length = m at *
  have c4 : w1.cell? ⟨t, 4, none⟩ = some (.slice ua n uc) := (Th.out.at_ B1h.out hlt).cell 4
  generalize hy : w.heap.size = Y at *
  go_enter Try.func11, Try.ntmps11
  go_wp2_with fail
  rw [← W1.out]
  have e0 : w1.cell? ⟨Y, 0, none⟩ = some (.int .i64 a) := K1h.out.cell 0
  have e1 : w1.cell? ⟨Y, 1, none⟩ = some (.int .i64 b) := K1h.out.cell 1
  have e2 : w1.cell? ⟨Y, 2, none⟩ = some (.int .i64 c) := K1h.out.cell 2
  have e3 : w1.cell? ⟨Y, 3, none⟩ = some (.string k) := K1h.out.cell 3
  have e4 : w1.cell? ⟨Y, 4, none⟩ = some (.slice p m cp) := K1h.out.cell 4
  go_wp2_with fail
  refine (NU.out _).mono ?_
  rintro e w2 ⟨rfl, b2⟩
  have B2 := Lib.hid (B1h.out.trans (b2.mono (by omega)))
  have K2h := Lib.hid (K1h.out.below b2)
  clear b2 e0 e1 e2 e3 e4 c4
  go_wp2_with fail
  refine (CKh.out _ B2.out).mono ?_
  rintro e w3 ⟨rfl, b3⟩
  have B3 := Lib.hid (B2.out.trans (b3.mono (by have := B2.out.size; omega)))
  have K3h := Lib.hid (K2h.out.below b3)
  have c4 : w3.cell? ⟨t, 4, none⟩ = some (.slice ua n uc) := (Th.out.at_ B3.out hlt).cell 4
  have e0 : w3.cell? ⟨Y, 0, none⟩ = some (.int .i64 a) := K3h.out.cell 0
  have e1 : w3.cell? ⟨Y, 1, none⟩ = some (.int .i64 b) := K3h.out.cell 1
  have e2 : w3.cell? ⟨Y, 2, none⟩ = some (.int .i64 c) := K3h.out.cell 2
  have e3 : w3.cell? ⟨Y, 3, none⟩ = some (.string k) := K3h.out.cell 3
  have e4 : w3.cell? ⟨Y, 4, none⟩ = some (.slice p m cp) := K3h.out.cell 4
  have hn1 : (n : Int) < 256 := by omega
  clear b3 K2h K1h W1 B2 NU CKh
  have fz : ∀ i, w3.frozen? ⟨Y, i, none⟩ = false := K3h.out.free
  go_wp2_with fail
  clear fz
  have hB3 : B ≤ w3.heap.size := by have := B3.out.size; omega
  have hY3 : Y ≤ w3.heap.size := by have := B3.out.size; omega
  have K5 : Blk ((w3.setCell ⟨Y, 0, none⟩ (.int .i64 0)).setCell ⟨Y, 1, none⟩ (.int .i64 0)) Y 31 #[.int .i64 0, .int .i64 0, .int .i64 c, .string k, .slice p m cp] := (K3h.out.set 0 (.int .i64 0)).set 1 (.int .i64 0)
  have B5 := Lib.hid (Below.setCell (p := ⟨Y, 1, none⟩) (Below.setCell (p := ⟨Y, 0, none⟩) B3.out (Nat.le_refl Y) (.int .i64 0)) (Nat.le_refl Y) (.int .i64 0))
  clear e0 e1 e2 e3 e4 c4
  have hs5 : ((w3.setCell ⟨Y, 0, none⟩ (.int .i64 0)).setCell ⟨Y, 1, none⟩ (.int .i64 0)).heap.size = w3.heap.size := by simp
  generalize (w3.setCell ⟨Y, 0, none⟩ (.int .i64 0)).setCell ⟨Y, 1, none⟩ (.int .i64 0) = w5 at *
  have hB5 : B ≤ w5.heap.size := by omega
  have hY5 : Y ≤ w5.heap.size := by omega
  have c4 : w5.cell? ⟨t, 4, none⟩ = some (.slice ua n uc) := (Th.out.at_ B5.out hlt).cell 4
  have e0 : w5.cell? ⟨Y, 0, none⟩ = some (.int .i64 0) := K5.cell 0
  have e1 : w5.cell? ⟨Y, 1, none⟩ = some (.int .i64 0) := K5.cell 1
  have e2 : w5.cell? ⟨Y, 2, none⟩ = some (.int .i64 c) := K5.cell 2
  have e3 : w5.cell? ⟨Y, 3, none⟩ = some (.string k) := K5.cell 3
  have e4 : w5.cell? ⟨Y, 4, none⟩ = some (.slice p m cp) := K5.cell 4
  clear K3h B3 hs5 K5 hB3 hY3
  have BD : Hid (Below Y w w5.drew) := Lib.hid B5.out.drew
  have CALL := Lib.hid (CPh.out w5.drew BD.out)
  clear CPh
  go_region_law
    (first
      | (refine step_append_lies _ rfl (.tmp 26) (.tmp 29) 89 rfl B 31 i31 (.agg #[.int .i64 0, .int .i64 0, .int .i64 0, .string ⟨#[]⟩, .slice none 0 0]) 5 64 Try.underlying89 hi hz0 hz1 hz2 rfl (by decide) (.slice ua n uc) n cs rfl (World.ownsRow.alloc OW2.out _) ⟨v2.heap.size, 0, none⟩ 1 1 (encE 0 0 c k (.slice p2 m cp2)) rfl rfl (World.news_of_block (cs := #[.int .i64 0, .int .i64 0, .int .i64 c, .string k, .slice p2 m cp2]) (heap_alloc_new v2 _)) (one_encE 0 0 c k p2 m cp2) (by decide) (by unfold maxLen; omega) (by omega) (by have := hXv; simp; omega) _ rfl ?_; intro g4 cap4 w4 ho4 hg4 hat4 _; obtain ⟨A4, f4, q4⟩ := END.out v2 w4 p2 cp2 g4 cap4 _ BV.out F2.out hp2.out ho4 hg4 hat4; have A4h := Lib.hid A4; clear A4 ho4 hg4 hat4)
      | (go_simp; go_at_call 43; refine CALL.out.mono ?_; rintro r9 v2 ⟨p2, cp2, rfl, F2, hp2, b2⟩; have BV : Hid (Below Y w v2) := Lib.hid (B5.out.drew.trans (b2.mono hY5)); have OW2 := Lib.hid (OWN.out v2 BV.out); have F2 := Lib.hid F2; have hp2 := Lib.hid (fun ad e => (hpp_of (w := w5.drew) hY5 (hp2 ad e))); have hXv : B ≤ v2.heap.size := Nat.le_trans hB5 b2.size; have c5 : v2.cell? ⟨t, 4, none⟩ = some (.slice ua n uc) := (Th.out.at_ BV.out hlt).cell 4; have hTv : (⟨t, 4, none⟩ : Addr).block < v2.heap.size := (Th.out.at_ BV.out hlt).lt; have c6 : ∀ o, (v2.alloc o).cell? ⟨t, 4, none⟩ = some (.slice ua n uc) := fun o => (World.cell?_alloc_lt _ _ _ hTv).trans c5; clear b2))
  all_goals (go_wp2_with fail; (try go_ret); exact A4h.out)
end Go.Proofs.Ytbghjcfepjbppaa
/-
  WHOM A CLIENT ASKS: next, turn; Late; a session is opened.
-/
namespace Go.Proofs.Ytbghjcfepjbppaa
open Go.RowKit
/-- the next node is asked -/
def NextR (w : World) (t : Nat) (ty : TypeId) (cs : Array Value) (nodes to : Int) (e : Ending) (w' : World) : Prop :=
  e = .returned (.tuple #[]) ∧ Blk w' t ty (cs.setIfInBounds 1 (.int .i64 (nextN to nodes))) ∧ Fr w w' (fun q => q = t)
theorem next_end0 {w : World} {t : Nat} {ty : TypeId} {cs : Array Value} {nodes to : Int} (T : Blk w t ty cs) (h : nextN to nodes = to + 1) (n : Nat) :
    NextR w t ty cs nodes to (.returned (.tuple #[])) ((w.setCell ⟨t, 1, none⟩ (.int .i64 (to + 1))).drewN n) := by
  refine ⟨rfl, ?_, (fr_set w t 1 _).on ⟨rfl, rfl, rfl, Nat.le_refl _, fun _ _ _ => rfl⟩⟩
  rw [h]
  exact T.set 1 _
theorem next_end1 {w : World} {t : Nat} {ty : TypeId} {cs : Array Value} {nodes to : Int} {x : Value} (T : Blk w t ty cs) (h : nextN to nodes = 0) (n : Nat) :
    NextR w t ty cs nodes to (.returned (.tuple #[])) (((w.setCell ⟨t, 1, none⟩ x).drewN n).setCell ⟨t, 1, none⟩ (.int .i64 0)) := by
  refine ⟨rfl, ?_, ((fr_set w t 1 _).on (w2 := (w.setCell ⟨t, 1, none⟩ x).drewN n) ⟨rfl, rfl, rfl, Nat.le_refl _, fun _ _ _ => rfl⟩).set t 1 _ (.inl rfl)⟩
  have h1 : Blk ((w.setCell ⟨t, 1, none⟩ x).drewN n) t ty (cs.setIfInBounds 1 x) := T.set 1 x
  have h2 := h1.set 1 (.int .i64 0)
  rw [h]
  rw [show (cs.setIfInBounds 1 x).setIfInBounds 1 (.int .i64 0) = cs.setIfInBounds 1 (.int .i64 0) by simp] at h2
  exact h2
set_option maxHeartbeats 1000000 in
theorem next_any {w : World} {t : Nat} {ty : TypeId} {cs : Array Value} {nodes to : Int} (T : Blk w t ty cs) (h0 : cs[0]? = some (.int .i64 nodes)) (h1 : cs[1]? = some (.int .i64 to)) (ht : 0 ≤ to ∧ to ≤ 100) (hn : nodes ≤ 100) :
    Calls Try.prog 49 #[.pointer (some ⟨t, 0, none⟩)] w (NextR w t ty cs nodes to) := by
  have c0 : w.cell? ⟨t, 0, none⟩ = some (.int .i64 nodes) := (T.cell 0).trans h0
  have c1 : w.cell? ⟨t, 1, none⟩ = some (.int .i64 to) := (T.cell 1).trans h1
  have fz : ∀ i, w.frozen? ⟨t, i, none⟩ = false := T.free
  by_cases hb : to + 1 < nodes
  · have FIN := Lib.hid (fun n => next_end0 T (show nextN to nodes = to + 1 by unfold nextN; rw [if_pos hb]) n)
    have hd : decide (nodes ≤ to + 1) = false := by simp; omega
    generalize NextR w t ty cs nodes to = Q at *
    have hw : wrap64 (to + 1) = to + 1 := by unfold wrap64; omega
    clear T h0 h1
    go_enter Try.func49, Try.ntmps49
    go_wp2_with fail
    go_quiet (fail)
    go_wp2_with fail
    all_goals ((try go_end0); exact FIN.out _)
  · have FIN := Lib.hid (fun n x => next_end1 (x := x) T (show nextN to nodes = 0 by unfold nextN; rw [if_neg hb]) n)
    have hd : decide (nodes ≤ to + 1) = true := by simp; omega
    generalize NextR w t ty cs nodes to = Q at *
    have hw : wrap64 (to + 1) = to + 1 := by unfold wrap64; omega
    clear T h0 h1
    go_enter Try.func49, Try.ntmps49
    go_wp2_with fail
    go_quiet (fail)
    go_wp2_with fail
    all_goals ((try go_end0); exact FIN.out _ _)
theorem late_any {w : World} {t : Nat} {nodes to id sq : Int} {wv rv : Value} (T : Blk w t 98 (tel nodes to id sq wv rv)) (ht : 0 ≤ to ∧ to ≤ 100) (hn : nodes ≤ 100) :
    Calls Try.prog 15 #[.pointer (some ⟨t, 0, none⟩)] w fun e w' => e = .returned (.tuple #[]) ∧ Blk w' t 98 (tel nodes (nextN to nodes) id sq wv rv) ∧ Fr w w' (fun q => q = t) := by
  have NX := Lib.hid (next_any T rfl rfl ht hn)
  clear T
  go_enter Try.func15, Try.ntmps15
  go_wp2_with fail
  refine NX.out.mono ?_
  rintro e w1 ⟨rfl, T1, f1⟩
  have T1 := Lib.hid T1
  have f1 := Lib.hid f1
  go_wp2_with fail
  go_end0
  exact ⟨rfl, T1.out, f1.out⟩
theorem late_nil (w : World) : Calls Try.prog 15 #[.pointer none] w fun e w' => e = .returned (.tuple #[]) ∧ w = w' := by
  go_enter Try.func15, Try.ntmps15
  go_wp2_with fail
  go_end0
  exact ⟨rfl, rfl⟩
end Go.Proofs.Ytbghjcfepjbppaa
/-
  A TELLER IS TOLD: a session is opened.
-/
namespace Go.Proofs.Ytbghjcfepjbppaa
open Go.RowKit
theorem told_nil (e m lead : Int) (w : World) : Calls Try.prog 13 #[.pointer none, .agg #[.int .i64 e, .int .i64 m], .int .i64 lead] w fun r w' => r = .returned (.tuple #[]) ∧ Below w.heap.size w w' := by
  have FIN := Lib.hid (fun o => (Below.refl w.heap.size w).alloc (Nat.le_refl _) o)
  go_enter Try.func13, Try.ntmps13
  go_wp2_with fail
  refine (left_nil _).mono ?_
  rintro e w1 ⟨rfl, rfl⟩
  go_wp2_with fail
  refine bodyPost_ret (results_none rfl _ _ _) rfl ?_
  exact ⟨rfl, FIN.out _⟩
theorem came_opens {w : World} {t : Nat} {nodes to sq m : Int} {wv rv : Value} (T : Blk w t 98 (tel nodes to 0 sq wv rv)) (hm : 1 ≤ m ∧ m ≤ 549755813888) :
    Calls Try.prog 44 #[.pointer (some ⟨t, 0, none⟩), .int .i64 m] w fun e w' => e = .returned (.tuple #[]) ∧ Blk w' t 98 (tel nodes to m 0 wv rv) ∧ Fr w w' (fun q => q = t) := by
  have OP := Lib.hid (open_any T)
  have FIN : Hid (Blk ((w.setCell ⟨t, 2, none⟩ (.int .i64 m)).setCell ⟨t, 3, none⟩ (.int .i64 0)) t 98 (tel nodes to m 0 wv rv) ∧ Fr w ((w.setCell ⟨t, 2, none⟩ (.int .i64 m)).setCell ⟨t, 3, none⟩ (.int .i64 0)) (fun q => q = t)) := Lib.hid ⟨(T.set 2 _).set 3 _, (fr_set w t 2 _).set t 3 _ (.inl rfl)⟩
  have c2 : w.cell? ⟨t, 2, none⟩ = some (.int .i64 0) := T.cell 2
  have c3 : w.cell? ⟨t, 3, none⟩ = some (.int .i64 sq) := T.cell 3
  have fz : ∀ i, w.frozen? ⟨t, i, none⟩ = false := T.free
  obtain ⟨m1, m2⟩ := hm
  clear T
  go_enter Try.func44, Try.ntmps44
  go_wp2_with fail
  refine OP.out.mono ?_
  rintro e w1 ⟨rfl, rfl⟩
  go_wp2_with fail
  go_end0
  exact ⟨rfl, FIN.out⟩
theorem told_opens {w : World} {t : Nat} {nodes to sq m lead : Int} {a : Option Addr} {n c : Nat} {rv : Value} (T : Blk w t 98 (tel nodes to 0 sq (.slice a n c) rv)) (hn : 0 < n) (hm : 1 ≤ m ∧ m ≤ 549755813888) :
    Calls Try.prog 13 #[.pointer (some ⟨t, 0, none⟩), .agg #[.int .i64 0, .int .i64 m], .int .i64 lead] w fun e w' => e = .returned (.tuple #[]) ∧ Blk w' t 98 (tel nodes to m 0 (.slice a n c) rv) ∧ Fr w w' (fun q => q = t) := by
  have B1 := Lib.hid (fun o => (Below.refl w.heap.size w).alloc (Nat.le_refl _) o)
  have LF := Lib.hid (fun o => left_any (T.below (B1.out o)))
  have CM := Lib.hid (fun o => came_opens (T.below (B1.out o)) hm)
  have FW := Lib.hid (fun o => Fr.of_below (B1.out o) (fun q => q = t))
  have hn1 : ((n : Int) == 0) = false := by rw [beq_eq_false_iff_ne]; omega
  clear T B1
  go_enter Try.func13, Try.ntmps13
  go_wp2_with fail
  refine (LF.out _).mono ?_
  rintro e w1 ⟨rfl, rfl⟩
  go_wp2_with fail
  refine (CM.out _).mono ?_
  rintro e w2 ⟨rfl, T2, f2⟩
  have T2 := Lib.hid T2
  have f2 := Lib.hid f2
  go_wp2_with fail
  go_end0
  exact ⟨rfl, T2.out, (FW.out _).on f2.out⟩
end Go.Proofs.Ytbghjcfepjbppaa
/-
  THE WALK OF THE DOCUMENT'S OWN Num (auspiceref01): the bytes are appended one by one to a slice of its own.
-/
namespace Go.Proofs.Ytbghjcfepjbppaa.Bt
open Go.RowKit

theorem info5 : (Try.prog.info? 5).map (fun i => (i.zero, i.size, i.bytes)) = some (some (.int .u8 0), 1, 1) := by kernel_rfl
/-- a slice of bytes that the call owns, from block B on -/
def Bytes (w : World) (B : Nat) (v : Value) (xs : List Int) : Prop := w.ownsRow B 5 1 v xs.length (xs.map (Value.int .u8))

theorem Bytes.lit (w : World) (B : Nat) (hb : B ≤ w.heap.size) (xs : List Int) (hm : xs.length ≤ maxLen) :
    Bytes (w.alloc (.cells (xs.map (Value.int .u8)).toArray 5)) B (.slice (some ⟨w.heap.size, 0, none⟩) xs.length xs.length) xs := by
  have h := World.ownsRow_lit (base := B) (e := 5) (size := 1) w (xs.map (Value.int .u8)).toArray xs.length hb hm (by simp)
  simpa [Bytes] using h

theorem Bytes.drew {w : World} {B : Nat} {v : Value} {xs : List Int} (h : Bytes w B v xs) : Bytes w.drew B v xs := h

theorem append_byte {ops : Array Oper} {rest : List Oper} {o : Oper} {a : Act} {Q : Exit → Act → World → Prop} (W : World) (hgd : o.guard = none) (s x : Operand)
    (ho : o.op = .call { callee := .builtin .append, args := #[s, x], argTypes := #[153, 153] })
    (B : Nat) (v : Value) (xs : List Int) (hs : a.eval s = v) (hown : Bytes W B v xs) (c : Int)
    (hx : a.eval x = .slice (some ⟨W.heap.size, 0, none⟩) 1 1) (hlen : xs.length + 1 ≤ 140737488355328) (hB : B ≤ W.heap.size)
    (h : ∀ v' w', Bytes w' B v' (xs ++ [c]) → Below B W w' → wpList Try.prog ops Q rest (a.put o.dst v') w') :
    wpList Try.prog ops Q (o :: rest) a (W.alloc (.cells #[.int .u8 c] 5)) := by
  obtain ⟨i, hi, hz0, hz1, hz2⟩ := info_parts info5
  refine wpList_append_own _ hgd s x 153 ho B 5 i (.int .u8 0) 1 1 Try.underlying153 hi hz0 hz1 hz2 rfl (by decide) v xs.length (xs.map (Value.int .u8)) hs (hown.alloc _) ⟨W.heap.size, 0, none⟩ 1 1 [.int .u8 c] hx rfl ?_ ?_ ?_ ?_ ?_ ?_
  · exact cell_one_new _ _ _
  · intro u hu; simp at hu; subst hu; rfl
  · unfold maxLen; omega
  · omega
  · simp; omega
  · intro v' w' ho' hg _
    refine h v' w' ?_ ?_
    · simpa [Bytes] using ho'
    · refine (((Below.refl B W).alloc hB _).grown hg (by simp; omega) ?_)
      intro k hk
      obtain ⟨_, h2⟩ := hown
      rcases h2 with ⟨rfl, _⟩ | ⟨g, cap, cur, rfl, hg', _⟩
      · simp [Value.ownBlock] at hk
      · simp [Value.ownBlock] at hk; omega


theorem conv_own {W : World} {B : Nat} {v : Value} {xs : List Int} (h : Bytes W B v xs) : (convert 153 9 v).run Try.prog W = .ok (.string (strOfNums xs)) W := by
  rcases Joins.ownsRow_forms h with ⟨rfl, hn⟩ | ⟨g, cap, rfl⟩
  · rw [run_convert_bytes_nil (P := Try.prog) W 153 5 Try.underlying153 Try.underlying5 0 0 9 Try.underlying9]
    rw [List.eq_nil_of_length_eq_zero hn]; rfl
  · refine run_convert_bytes_arg (P := Try.prog) W 153 5 Try.underlying153 Try.underlying5 g 0 xs.length cap xs rfl ?_ 9 Try.underlying9
    intro i hi
    have e := World.ownsRow.cellAt h i (by omega)
    rw [Nat.zero_add, e]
    simp [List.getD, List.getElem?_eq_getElem hi]



set_option maxRecDepth 100000 in
set_option maxHeartbeats 1000000 in
theorem rnum_1 (n : Int) (h0 : 248 ≤ n) (h1 : n < 256) (w : World) :
    Calls Try.prog 101 #[.int .u64 n] w fun e w' => e = .returned (.string (strOfNums [248, n])) ∧ Below w.heap.size w w' := by
  have hn : ¬ n ≤ 247 := by omega
  go_enter Try.func101, Try.ntmps101
  go_wp2
  go_rounds 9
  have o0 := Bytes.lit w w.heap.size (Nat.le_refl _) [248] (by decide)
  have b0 := (Below.refl w.heap.size w).alloc (Nat.le_refl _) (.cells #[.int .u8 248] 5)
  simp only [List.map_cons, List.map_nil, List.length_cons, List.length_nil, Nat.zero_add] at o0
  refine wp_loop_rounds 10 ?_
  generalize w.alloc (.cells #[.int .u8 248] 5) = w0 at *
  have z0 := b0.size
  rw [rounds_succ]
  go_wp2_with (at_builtin; refine append_byte _ rfl _ _ rfl w.heap.size _ _ rfl o0 _ rfl (by simp) (by omega) ?_; intro v1 w1 o1 b1)
  have z1 := b1.size
  have hcv := conv_own o1
  rw [rounds_succ]
  go_wp2_with fail
  go_ret
  exact ⟨rfl, (b0.trans b1)⟩


set_option maxRecDepth 100000 in
set_option maxHeartbeats 1000000 in
theorem rnum_2 (n : Int) (h0 : 256 ≤ n) (h1 : n < 65536) (w : World) :
    Calls Try.prog 101 #[.int .u64 n] w fun e w' => e = .returned (.string (strOfNums [249, n / 256, n % 256])) ∧ Below w.heap.size w w' := by
  have hn : ¬ n ≤ 247 := by omega
  go_enter Try.func101, Try.ntmps101
  go_wp2
  go_rounds 9
  have o0 := Bytes.lit w w.heap.size (Nat.le_refl _) [249] (by decide)
  have b0 := (Below.refl w.heap.size w).alloc (Nat.le_refl _) (.cells #[.int .u8 249] 5)
  simp only [List.map_cons, List.map_nil, List.length_cons, List.length_nil, Nat.zero_add] at o0
  refine wp_loop_rounds 10 ?_
  generalize w.alloc (.cells #[.int .u8 249] 5) = w0 at *
  have z0 := b0.size
  rw [rounds_succ]
  go_wp2_with (at_builtin; refine append_byte _ rfl _ _ rfl w.heap.size _ _ rfl o0 _ rfl (by simp) (by omega) ?_; intro v1 w1 o1 b1)
  have z1 := b1.size
  rw [rounds_succ]
  go_wp2_with (at_builtin; refine append_byte _ rfl _ _ rfl w.heap.size _ _ rfl o1 _ rfl (by simp) (by omega) ?_; intro v2 w2 o2 b2)
  have z2 := b2.size
  have hcv := conv_own o2
  rw [rounds_succ]
  go_wp2_with fail
  go_ret
  exact ⟨rfl, ((b0.trans b1).trans b2)⟩


set_option maxRecDepth 100000 in
set_option maxHeartbeats 1000000 in
theorem rnum_3 (n : Int) (h0 : 65536 ≤ n) (h1 : n < 16777216) (w : World) :
    Calls Try.prog 101 #[.int .u64 n] w fun e w' => e = .returned (.string (strOfNums [250, n / 65536, n / 256 % 256, n % 256])) ∧ Below w.heap.size w w' := by
  have hn : ¬ n ≤ 247 := by omega
  go_enter Try.func101, Try.ntmps101
  go_wp2
  go_rounds 9
  have o0 := Bytes.lit w w.heap.size (Nat.le_refl _) [250] (by decide)
  have b0 := (Below.refl w.heap.size w).alloc (Nat.le_refl _) (.cells #[.int .u8 250] 5)
  simp only [List.map_cons, List.map_nil, List.length_cons, List.length_nil, Nat.zero_add] at o0
  refine wp_loop_rounds 10 ?_
  generalize w.alloc (.cells #[.int .u8 250] 5) = w0 at *
  have z0 := b0.size
  rw [rounds_succ]
  go_wp2_with (at_builtin; refine append_byte _ rfl _ _ rfl w.heap.size _ _ rfl o0 _ rfl (by simp) (by omega) ?_; intro v1 w1 o1 b1)
  have z1 := b1.size
  rw [rounds_succ]
  go_wp2_with (at_builtin; refine append_byte _ rfl _ _ rfl w.heap.size _ _ rfl o1 _ rfl (by simp) (by omega) ?_; intro v2 w2 o2 b2)
  have z2 := b2.size
  rw [rounds_succ]
  go_wp2_with (at_builtin; refine append_byte _ rfl _ _ rfl w.heap.size _ _ rfl o2 _ rfl (by simp) (by omega) ?_; intro v3 w3 o3 b3)
  have z3 := b3.size
  have hcv := conv_own o3
  rw [rounds_succ]
  go_wp2_with fail
  go_ret
  exact ⟨rfl, (((b0.trans b1).trans b2).trans b3)⟩


set_option maxRecDepth 100000 in
set_option maxHeartbeats 1000000 in
theorem rnum_4 (n : Int) (h0 : 16777216 ≤ n) (h1 : n < 4294967296) (w : World) :
    Calls Try.prog 101 #[.int .u64 n] w fun e w' => e = .returned (.string (strOfNums [251, n / 16777216, n / 65536 % 256, n / 256 % 256, n % 256])) ∧ Below w.heap.size w w' := by
  have hn : ¬ n ≤ 247 := by omega
  go_enter Try.func101, Try.ntmps101
  go_wp2
  go_rounds 9
  have o0 := Bytes.lit w w.heap.size (Nat.le_refl _) [251] (by decide)
  have b0 := (Below.refl w.heap.size w).alloc (Nat.le_refl _) (.cells #[.int .u8 251] 5)
  simp only [List.map_cons, List.map_nil, List.length_cons, List.length_nil, Nat.zero_add] at o0
  refine wp_loop_rounds 10 ?_
  generalize w.alloc (.cells #[.int .u8 251] 5) = w0 at *
  have z0 := b0.size
  rw [rounds_succ]
  go_wp2_with (at_builtin; refine append_byte _ rfl _ _ rfl w.heap.size _ _ rfl o0 _ rfl (by simp) (by omega) ?_; intro v1 w1 o1 b1)
  have z1 := b1.size
  rw [rounds_succ]
  go_wp2_with (at_builtin; refine append_byte _ rfl _ _ rfl w.heap.size _ _ rfl o1 _ rfl (by simp) (by omega) ?_; intro v2 w2 o2 b2)
  have z2 := b2.size
  rw [rounds_succ]
  go_wp2_with (at_builtin; refine append_byte _ rfl _ _ rfl w.heap.size _ _ rfl o2 _ rfl (by simp) (by omega) ?_; intro v3 w3 o3 b3)
  have z3 := b3.size
  rw [rounds_succ]
  go_wp2_with (at_builtin; refine append_byte _ rfl _ _ rfl w.heap.size _ _ rfl o3 _ rfl (by simp) (by omega) ?_; intro v4 w4 o4 b4)
  have z4 := b4.size
  have hcv := conv_own o4
  rw [rounds_succ]
  go_wp2_with fail
  go_ret
  exact ⟨rfl, ((((b0.trans b1).trans b2).trans b3).trans b4)⟩


set_option maxRecDepth 100000 in
set_option maxHeartbeats 1000000 in
theorem rnum_5 (n : Int) (h0 : 4294967296 ≤ n) (h1 : n < 1099511627776) (w : World) :
    Calls Try.prog 101 #[.int .u64 n] w fun e w' => e = .returned (.string (strOfNums [252, n / 4294967296, n / 16777216 % 256, n / 65536 % 256, n / 256 % 256, n % 256])) ∧ Below w.heap.size w w' := by
  have hn : ¬ n ≤ 247 := by omega
  go_enter Try.func101, Try.ntmps101
  go_wp2
  go_rounds 9
  have o0 := Bytes.lit w w.heap.size (Nat.le_refl _) [252] (by decide)
  have b0 := (Below.refl w.heap.size w).alloc (Nat.le_refl _) (.cells #[.int .u8 252] 5)
  simp only [List.map_cons, List.map_nil, List.length_cons, List.length_nil, Nat.zero_add] at o0
  refine wp_loop_rounds 10 ?_
  generalize w.alloc (.cells #[.int .u8 252] 5) = w0 at *
  have z0 := b0.size
  rw [rounds_succ]
  go_wp2_with (at_builtin; refine append_byte _ rfl _ _ rfl w.heap.size _ _ rfl o0 _ rfl (by simp) (by omega) ?_; intro v1 w1 o1 b1)
  have z1 := b1.size
  rw [rounds_succ]
  go_wp2_with (at_builtin; refine append_byte _ rfl _ _ rfl w.heap.size _ _ rfl o1 _ rfl (by simp) (by omega) ?_; intro v2 w2 o2 b2)
  have z2 := b2.size
  rw [rounds_succ]
  go_wp2_with (at_builtin; refine append_byte _ rfl _ _ rfl w.heap.size _ _ rfl o2 _ rfl (by simp) (by omega) ?_; intro v3 w3 o3 b3)
  have z3 := b3.size
  rw [rounds_succ]
  go_wp2_with (at_builtin; refine append_byte _ rfl _ _ rfl w.heap.size _ _ rfl o3 _ rfl (by simp) (by omega) ?_; intro v4 w4 o4 b4)
  have z4 := b4.size
  rw [rounds_succ]
  go_wp2_with (at_builtin; refine append_byte _ rfl _ _ rfl w.heap.size _ _ rfl o4 _ rfl (by simp) (by omega) ?_; intro v5 w5 o5 b5)
  have z5 := b5.size
  have hcv := conv_own o5
  rw [rounds_succ]
  go_wp2_with fail
  go_ret
  exact ⟨rfl, (((((b0.trans b1).trans b2).trans b3).trans b4).trans b5)⟩


set_option maxRecDepth 100000 in
set_option maxHeartbeats 1000000 in
theorem rnum_6 (n : Int) (h0 : 1099511627776 ≤ n) (h1 : n < 281474976710656) (w : World) :
    Calls Try.prog 101 #[.int .u64 n] w fun e w' => e = .returned (.string (strOfNums [253, n / 1099511627776, n / 4294967296 % 256, n / 16777216 % 256, n / 65536 % 256, n / 256 % 256, n % 256])) ∧ Below w.heap.size w w' := by
  have hn : ¬ n ≤ 247 := by omega
  go_enter Try.func101, Try.ntmps101
  go_wp2
  go_rounds 9
  have o0 := Bytes.lit w w.heap.size (Nat.le_refl _) [253] (by decide)
  have b0 := (Below.refl w.heap.size w).alloc (Nat.le_refl _) (.cells #[.int .u8 253] 5)
  simp only [List.map_cons, List.map_nil, List.length_cons, List.length_nil, Nat.zero_add] at o0
  refine wp_loop_rounds 10 ?_
  generalize w.alloc (.cells #[.int .u8 253] 5) = w0 at *
  have z0 := b0.size
  rw [rounds_succ]
  go_wp2_with (at_builtin; refine append_byte _ rfl _ _ rfl w.heap.size _ _ rfl o0 _ rfl (by simp) (by omega) ?_; intro v1 w1 o1 b1)
  have z1 := b1.size
  rw [rounds_succ]
  go_wp2_with (at_builtin; refine append_byte _ rfl _ _ rfl w.heap.size _ _ rfl o1 _ rfl (by simp) (by omega) ?_; intro v2 w2 o2 b2)
  have z2 := b2.size
  rw [rounds_succ]
  go_wp2_with (at_builtin; refine append_byte _ rfl _ _ rfl w.heap.size _ _ rfl o2 _ rfl (by simp) (by omega) ?_; intro v3 w3 o3 b3)
  have z3 := b3.size
  rw [rounds_succ]
  go_wp2_with (at_builtin; refine append_byte _ rfl _ _ rfl w.heap.size _ _ rfl o3 _ rfl (by simp) (by omega) ?_; intro v4 w4 o4 b4)
  have z4 := b4.size
  rw [rounds_succ]
  go_wp2_with (at_builtin; refine append_byte _ rfl _ _ rfl w.heap.size _ _ rfl o4 _ rfl (by simp) (by omega) ?_; intro v5 w5 o5 b5)
  have z5 := b5.size
  rw [rounds_succ]
  go_wp2_with (at_builtin; refine append_byte _ rfl _ _ rfl w.heap.size _ _ rfl o5 _ rfl (by simp) (by omega) ?_; intro v6 w6 o6 b6)
  have z6 := b6.size
  have hcv := conv_own o6
  rw [rounds_succ]
  go_wp2_with fail
  go_ret
  exact ⟨rfl, ((((((b0.trans b1).trans b2).trans b3).trans b4).trans b5).trans b6)⟩


set_option maxRecDepth 100000 in
set_option maxHeartbeats 1000000 in
theorem rnum_7 (n : Int) (h0 : 281474976710656 ≤ n) (h1 : n < 72057594037927936) (w : World) :
    Calls Try.prog 101 #[.int .u64 n] w fun e w' => e = .returned (.string (strOfNums [254, n / 281474976710656, n / 1099511627776 % 256, n / 4294967296 % 256, n / 16777216 % 256, n / 65536 % 256, n / 256 % 256, n % 256])) ∧ Below w.heap.size w w' := by
  have hn : ¬ n ≤ 247 := by omega
  go_enter Try.func101, Try.ntmps101
  go_wp2
  go_rounds 9
  have o0 := Bytes.lit w w.heap.size (Nat.le_refl _) [254] (by decide)
  have b0 := (Below.refl w.heap.size w).alloc (Nat.le_refl _) (.cells #[.int .u8 254] 5)
  simp only [List.map_cons, List.map_nil, List.length_cons, List.length_nil, Nat.zero_add] at o0
  refine wp_loop_rounds 10 ?_
  generalize w.alloc (.cells #[.int .u8 254] 5) = w0 at *
  have z0 := b0.size
  rw [rounds_succ]
  go_wp2_with (at_builtin; refine append_byte _ rfl _ _ rfl w.heap.size _ _ rfl o0 _ rfl (by simp) (by omega) ?_; intro v1 w1 o1 b1)
  have z1 := b1.size
  rw [rounds_succ]
  go_wp2_with (at_builtin; refine append_byte _ rfl _ _ rfl w.heap.size _ _ rfl o1 _ rfl (by simp) (by omega) ?_; intro v2 w2 o2 b2)
  have z2 := b2.size
  rw [rounds_succ]
  go_wp2_with (at_builtin; refine append_byte _ rfl _ _ rfl w.heap.size _ _ rfl o2 _ rfl (by simp) (by omega) ?_; intro v3 w3 o3 b3)
  have z3 := b3.size
  rw [rounds_succ]
  go_wp2_with (at_builtin; refine append_byte _ rfl _ _ rfl w.heap.size _ _ rfl o3 _ rfl (by simp) (by omega) ?_; intro v4 w4 o4 b4)
  have z4 := b4.size
  rw [rounds_succ]
  go_wp2_with (at_builtin; refine append_byte _ rfl _ _ rfl w.heap.size _ _ rfl o4 _ rfl (by simp) (by omega) ?_; intro v5 w5 o5 b5)
  have z5 := b5.size
  rw [rounds_succ]
  go_wp2_with (at_builtin; refine append_byte _ rfl _ _ rfl w.heap.size _ _ rfl o5 _ rfl (by simp) (by omega) ?_; intro v6 w6 o6 b6)
  have z6 := b6.size
  rw [rounds_succ]
  go_wp2_with (at_builtin; refine append_byte _ rfl _ _ rfl w.heap.size _ _ rfl o6 _ rfl (by simp) (by omega) ?_; intro v7 w7 o7 b7)
  have z7 := b7.size
  have hcv := conv_own o7
  rw [rounds_succ]
  go_wp2_with fail
  go_ret
  exact ⟨rfl, (((((((b0.trans b1).trans b2).trans b3).trans b4).trans b5).trans b6).trans b7)⟩


set_option maxRecDepth 100000 in
set_option maxHeartbeats 1000000 in
theorem rnum_8 (n : Int) (h0 : 72057594037927936 ≤ n) (h1 : n < 18446744073709551616) (w : World) :
    Calls Try.prog 101 #[.int .u64 n] w fun e w' => e = .returned (.string (strOfNums [255, n / 72057594037927936, n / 281474976710656 % 256, n / 1099511627776 % 256, n / 4294967296 % 256, n / 16777216 % 256, n / 65536 % 256, n / 256 % 256, n % 256])) ∧ Below w.heap.size w w' := by
  have hn : ¬ n ≤ 247 := by omega
  go_enter Try.func101, Try.ntmps101
  go_wp2
  go_rounds 9
  have o0 := Bytes.lit w w.heap.size (Nat.le_refl _) [255] (by decide)
  have b0 := (Below.refl w.heap.size w).alloc (Nat.le_refl _) (.cells #[.int .u8 255] 5)
  simp only [List.map_cons, List.map_nil, List.length_cons, List.length_nil, Nat.zero_add] at o0
  refine wp_loop_rounds 10 ?_
  generalize w.alloc (.cells #[.int .u8 255] 5) = w0 at *
  have z0 := b0.size
  rw [rounds_succ]
  go_wp2_with (at_builtin; refine append_byte _ rfl _ _ rfl w.heap.size _ _ rfl o0 _ rfl (by simp) (by omega) ?_; intro v1 w1 o1 b1)
  have z1 := b1.size
  rw [rounds_succ]
  go_wp2_with (at_builtin; refine append_byte _ rfl _ _ rfl w.heap.size _ _ rfl o1 _ rfl (by simp) (by omega) ?_; intro v2 w2 o2 b2)
  have z2 := b2.size
  rw [rounds_succ]
  go_wp2_with (at_builtin; refine append_byte _ rfl _ _ rfl w.heap.size _ _ rfl o2 _ rfl (by simp) (by omega) ?_; intro v3 w3 o3 b3)
  have z3 := b3.size
  rw [rounds_succ]
  go_wp2_with (at_builtin; refine append_byte _ rfl _ _ rfl w.heap.size _ _ rfl o3 _ rfl (by simp) (by omega) ?_; intro v4 w4 o4 b4)
  have z4 := b4.size
  rw [rounds_succ]
  go_wp2_with (at_builtin; refine append_byte _ rfl _ _ rfl w.heap.size _ _ rfl o4 _ rfl (by simp) (by omega) ?_; intro v5 w5 o5 b5)
  have z5 := b5.size
  rw [rounds_succ]
  go_wp2_with (at_builtin; refine append_byte _ rfl _ _ rfl w.heap.size _ _ rfl o5 _ rfl (by simp) (by omega) ?_; intro v6 w6 o6 b6)
  have z6 := b6.size
  rw [rounds_succ]
  go_wp2_with (at_builtin; refine append_byte _ rfl _ _ rfl w.heap.size _ _ rfl o6 _ rfl (by simp) (by omega) ?_; intro v7 w7 o7 b7)
  have z7 := b7.size
  rw [rounds_succ]
  go_wp2_with (at_builtin; refine append_byte _ rfl _ _ rfl w.heap.size _ _ rfl o7 _ rfl (by simp) (by omega) ?_; intro v8 w8 o8 b8)
  have z8 := b8.size
  have hcv := conv_own o8
  rw [rounds_succ]
  go_wp2_with fail
  go_ret
  exact ⟨rfl, ((((((((b0.trans b1).trans b2).trans b3).trans b4).trans b5).trans b6).trans b7).trans b8)⟩


theorem rnum_0 (n : Int) (h0 : 0 ≤ n) (h1 : n ≤ 247) (w : World) :
    Calls Try.prog 101 #[.int .u64 n] w fun e w' => e = .returned (.string (strOfNums [n])) ∧ Below w.heap.size w w' := by
  have hconv := fun W : World => conv_new W [.int .u8 n] [n] 0 rfl 1 rfl 5 1
  go_enter Try.func101, Try.ntmps101
  go_wp2
  go_ret
  exact ⟨rfl, (Below.refl _ _).alloc (Nat.le_refl _) _⟩
theorem ret_nums {a b : List Int} {e : Ending} (h : a = b) (he : e = .returned (.string (strOfNums a))) : e = .returned (.string (strOfNums b)) := by rw [he, h]
theorem rnum_any (n : Int) (h0 : 0 ≤ n) (h1 : n < 18446744073709551616) (w : World) :
    Calls Try.prog 101 #[.int .u64 n] w fun e w' => e = .returned (.string (numS n)) ∧ Below w.heap.size w w' := by
  unfold numS numI wid
  by_cases hn : n ≤ 247
  · rw [if_pos hn]; exact rnum_0 n h0 hn w
  rw [if_neg hn]
  by_cases g1 : n < 256
  · rw [if_pos g1]
    refine (rnum_1 n (by omega) (by omega) w).mono fun e w' ⟨he, hb⟩ => ⟨ret_nums ?_ he, hb⟩
    simp only [be, List.nil_append, List.cons.injEq, and_true]; omega
  by_cases g2 : n < 65536
  · rw [if_neg g1, if_pos g2]
    refine (rnum_2 n (by omega) (by omega) w).mono fun e w' ⟨he, hb⟩ => ⟨ret_nums ?_ he, hb⟩
    simp only [be, List.nil_append, List.cons_append, List.cons.injEq, and_true]; omega
  by_cases g3 : n < 16777216
  · rw [if_neg g1, if_neg g2, if_pos g3]
    refine (rnum_3 n (by omega) (by omega) w).mono fun e w' ⟨he, hb⟩ => ⟨ret_nums ?_ he, hb⟩
    simp only [be, List.nil_append, List.cons_append, List.cons.injEq, and_true]; omega
  by_cases g4 : n < 4294967296
  · rw [if_neg g1, if_neg g2, if_neg g3, if_pos g4]
    refine (rnum_4 n (by omega) (by omega) w).mono fun e w' ⟨he, hb⟩ => ⟨ret_nums ?_ he, hb⟩
    simp only [be, List.nil_append, List.cons_append, List.cons.injEq, and_true]; omega
  by_cases g5 : n < 1099511627776
  · rw [if_neg g1, if_neg g2, if_neg g3, if_neg g4, if_pos g5]
    refine (rnum_5 n (by omega) (by omega) w).mono fun e w' ⟨he, hb⟩ => ⟨ret_nums ?_ he, hb⟩
    simp only [be, List.nil_append, List.cons_append, List.cons.injEq, and_true]; omega
  by_cases g6 : n < 281474976710656
  · rw [if_neg g1, if_neg g2, if_neg g3, if_neg g4, if_neg g5, if_pos g6]
    refine (rnum_6 n (by omega) (by omega) w).mono fun e w' ⟨he, hb⟩ => ⟨ret_nums ?_ he, hb⟩
    simp only [be, List.nil_append, List.cons_append, List.cons.injEq, and_true]; omega
  by_cases g7 : n < 72057594037927936
  · rw [if_neg g1, if_neg g2, if_neg g3, if_neg g4, if_neg g5, if_neg g6, if_pos g7]
    refine (rnum_7 n (by omega) (by omega) w).mono fun e w' ⟨he, hb⟩ => ⟨ret_nums ?_ he, hb⟩
    simp only [be, List.nil_append, List.cons_append, List.cons.injEq, and_true]; omega
  rw [if_neg g1, if_neg g2, if_neg g3, if_neg g4, if_neg g5, if_neg g6, if_neg g7]
  refine (rnum_8 n (by omega) (by omega) w).mono fun e w' ⟨he, hb⟩ => ⟨ret_nums ?_ he, hb⟩
  simp only [be, List.nil_append, List.cons_append, List.cons.injEq, and_true]; omega

end Go.Proofs.Ytbghjcfepjbppaa.Bt
/-
  THE WALKS OF bits.Int, bits.Text, bits.Flag and the document's own: over Num's contracts.
-/
namespace Go.Proofs.Ytbghjcfepjbppaa.Bt
open Go.RowKit
theorem zig_lt {n : Int} (h0 : -9223372036854775808 ≤ n) (h1 : n ≤ 9223372036854775807) : ((Lib.zigzag n : Nat) : Int) < 18446744073709551616 := by
  have := Lib.zigzag_lt h0 h1; omega
theorem be_len (k : Nat) : ∀ n, (be k n).length = k := by
  induction k with
  | zero => intro n; rfl
  | succ k ih => intro n; simp [be, ih]
theorem wid_le (n : Int) : 1 ≤ wid n ∧ wid n ≤ 8 := by
  unfold wid
  repeat' split
  all_goals omega
theorem numS_size (n : Int) : (numS n).size ≤ 9 := by
  unfold numS numI
  rw [strOfNums_size]
  have := (wid_le n).2
  split
  · simp
  · rw [List.length_cons, be_len]; omega
def intS (n : Int) : ByteArray := numS ((Lib.zigzag n : Nat) : Int)
theorem int_any (n : Int) (h0 : -9223372036854775808 ≤ n) (h1 : n ≤ 9223372036854775807) (w : World) :
    Calls Try.prog 104 #[.int .i64 n] w fun e w' => e = .returned (.string (intS n)) ∧ Below w.heap.size w w' := by
  go_enter Try.func104, Try.ntmps104
  go_wp2_with fail
  refine (fold_any n h0 h1 _).mono ?_
  rintro e w1 ⟨rfl, rfl⟩
  go_wp2_with fail
  refine (num_any _ (Int.natCast_nonneg _) (zig_lt h0 h1) _).mono ?_
  rintro e w1 ⟨rfl, hb⟩
  go_wp2_with fail
  go_ret
  exact ⟨rfl, hb⟩
theorem rint_any (n : Int) (h0 : -9223372036854775808 ≤ n) (h1 : n ≤ 9223372036854775807) (w : World) :
    Calls Try.prog 102 #[.int .i64 n] w fun e w' => e = .returned (.string (intS n)) ∧ Below w.heap.size w w' := by
  by_cases hn : 0 ≤ n
  · have e1 : Hid (((Lib.zigzag n : Nat) : Int) = 2 * n) := by have := Lib.zigzag_nonneg hn; unfold Hid; omega
    go_enter Try.func102, Try.ntmps102
    go_wp2_with fail
    refine (rnum_any _ (by omega) (by omega) _).mono ?_
    rintro e w1 ⟨rfl, hb⟩
    go_wp2_with fail
    go_ret
    exact ⟨by unfold intS; rw [e1.out]; rfl, hb⟩
  · have e1 : Hid (((Lib.zigzag n : Nat) : Int) = 2 * (-(n + 1)) + 1) := by unfold Hid Lib.zigzag; rw [if_neg hn]; omega
    go_enter Try.func102, Try.ntmps102
    go_wp2_with fail
    refine (rnum_any _ (by omega) (by omega) _).mono ?_
    rintro e w1 ⟨rfl, hb⟩
    go_wp2_with fail
    go_ret
    exact ⟨by unfold intS; rw [e1.out]; rfl, hb⟩
/-- the bytes of a text -/
def textS (s : ByteArray) : ByteArray := numS (s.size : Int) ++ s
theorem text_any (s : ByteArray) (hs : s.size ≤ 9223372036854775798) (w : World) :
    Calls Try.prog 87 #[.string s] w fun e w' => e = .returned (.string (textS s)) ∧ Below w.heap.size w w' := by
  have hz := numS_size (s.size : Int)
  have hz2 : (numS (s.size : Int)).size + s.size ≤ 9223372036854775807 := by omega
  go_enter Try.func87, Try.ntmps87
  go_wp2_with fail
  refine (num_any _ (Int.natCast_nonneg _) (by omega) _).mono ?_
  rintro e w1 ⟨rfl, hb⟩
  go_wp2_with fail
  go_ret
  exact ⟨rfl, hb⟩
theorem rtext_any (s : ByteArray) (hs : s.size ≤ 9223372036854775798) (w : World) :
    Calls Try.prog 93 #[.string s] w fun e w' => e = .returned (.string (textS s)) ∧ Below w.heap.size w w' := by
  have hz := numS_size (s.size : Int)
  have hz2 : (numS (s.size : Int)).size + s.size ≤ 9223372036854775807 := by omega
  go_enter Try.func93, Try.ntmps93
  go_wp2_with fail
  refine (rnum_any _ (Int.natCast_nonneg _) (by omega) _).mono ?_
  rintro e w1 ⟨rfl, hb⟩
  go_wp2_with fail
  go_ret
  exact ⟨rfl, hb⟩
def flagS (b : Bool) : ByteArray := if b then ⟨#[1]⟩ else ⟨#[0]⟩
end Go.Proofs.Ytbghjcfepjbppaa.Bt
/-
  THE WALKS OF bits.join, least, unfold, number: what stands at the front of bytes.
-/
namespace Go.Proofs.Ytbghjcfepjbppaa.Bt
open Go.RowKit
/-- the number whose bytes a list has, the highest first -/
def joinN (l : List UInt8) : Nat := l.foldl (fun n b => n * 256 + b.toNat) 0
theorem joinN_snoc (l : List UInt8) (b : UInt8) : joinN (l ++ [b]) = joinN l * 256 + b.toNat := by
  unfold joinN; rw [List.foldl_append]; rfl
theorem joinN_aux (l : List UInt8) : ∀ a : Nat, l.foldl (fun n b => n * 256 + b.toNat) a < (a + 1) * 256 ^ l.length := by
  induction l with
  | nil => intro a; simp
  | cons b l ih =>
    intro a
    rw [List.foldl_cons, List.length_cons, Nat.pow_succ]
    have hb := b.toNat_lt
    refine Nat.lt_of_lt_of_le (ih _) ?_
    rw [Nat.mul_comm (256 ^ l.length), ← Nat.mul_assoc]
    exact Nat.mul_le_mul_right _ (by omega)
theorem joinN_lt (l : List UInt8) : joinN l < 256 ^ l.length := by
  have := joinN_aux l 0
  simpa [joinN] using this
theorem take_snoc (s : ByteArray) (k : Nat) (h : k < s.size) : s.data.toList.take (k + 1) = s.data.toList.take k ++ [s[k]] := by
  rw [List.take_succ_eq_append_getElem (by simpa using h)]; rfl
theorem or_join (n : Nat) (b : UInt8) (h : n < 72057594037927936) : bits .or .u64 ((n : Int) * 256) (b.toNat : Int) = ((n * 256 + b.toNat : Nat) : Int) := by
  have hb := b.toNat_lt
  have e : ((n : Int) * 256) = ((n * 256 : Nat) : Int) := by omega
  rw [e, u64_or_nat _ _ (by omega) (by omega), nat_join 8 (n * 256) b.toNat (by omega) (by omega)]
theorem u64_byte (b : UInt8) : IntKind.u64.wrap (b.toNat : Int) = (b.toNat : Int) := by
  have := b.toNat_lt
  exact IntWalk.u64_in _ ⟨by omega, by omega⟩
theorem ret_u64 {a b : Int} (h : a = b) : Ending.returned (.int .u64 a) = .returned (.int .u64 b) := by rw [h]
set_option maxHeartbeats 400000 in
theorem join_any (s : ByteArray) (hs : s.size ≤ 8) (w : World) :
    Calls Try.prog 95 #[.string s] w fun e w' => e = .returned (.int .u64 (joinN s.data.toList)) ∧ w = w' := by
  go_enter Try.func95, Try.ntmps95
  go_wp2
  go_loop [3, 7] (fun n i => ∃ k : Nat, k ≤ s.size ∧ i = .int .i64 k ∧ n = .int .u64 (joinN (s.data.toList.take k) : Nat)) (fun _ i => s.size - (intOf i).toNat)
  case atStart => exact ⟨0, Nat.zero_le _, rfl, rfl⟩
  case round =>
    obtain ⟨k, hk, rfl, rfl⟩ := hrel
    have hl : (s.data.toList.take k).length ≤ k := List.length_take_le _ _
    by_cases hlt : k < s.size
    · have hsn := joinN_snoc (s.data.toList.take k) s[k]
      have hts := take_snoc s k hlt
      have hb0 := joinN_lt (s.data.toList.take k)
      have hb : joinN (s.data.toList.take k) < 72057594037927936 := Nat.lt_of_lt_of_le hb0 (Nat.le_trans (Nat.pow_le_pow_right (by decide) (show (s.data.toList.take k).length ≤ 7 by omega)) (by decide))
      have H := Lib.hid (hts ▸ hsn)
      have ho := or_join (joinN (s.data.toList.take k)) s[k] hb
      clear hsn hts hb0
      have hbi : (joinN (s.data.toList.take k) : Int) < 72057594037927936 := by omega
      have hw := u64_byte s[k]
      go_wp2
      go_round
      case rel => exact ⟨k + 1, by omega, by go_num, by rw [H.out]; go_num⟩
      case measure => simp [intOf]; omega
    · go_wp2
      go_ret
      exact ⟨ret_u64 (by rw [List.take_of_length_le (by simp; omega)]), rfl⟩

/-- the least number that has k bytes behind the first one -/
def leastN (k : Nat) : Nat := if k ≤ 1 then 248 else 256 ^ (k - 1)
theorem least_any (k : Int) (h1 : 1 ≤ k) (h2 : k ≤ 8) (w : World) :
    Calls Try.prog 96 #[.int .i64 k] w fun e w' => e = .returned (.int .u64 (leastN k.toNat)) ∧ w = w' := by
  have hk : k = 1 ∨ k = 2 ∨ k = 3 ∨ k = 4 ∨ k = 5 ∨ k = 6 ∨ k = 7 ∨ k = 8 := by omega
  rcases hk with rfl | rfl | rfl | rfl | rfl | rfl | rfl | rfl
  all_goals
    go_enter Try.func96, Try.ntmps96
    go_wp2
    go_ret
    exact ⟨rfl, rfl⟩
def unz (n : Nat) : Int := if n % 2 = 0 then (n / 2 : Nat) else -((n / 2 : Nat) : Int) - 1
theorem i64_xor_m1 (x : Nat) (hx : x < 9223372036854775808) : bits .xor .i64 (x : Int) (-1) = -(x : Int) - 1 := by
  show IntKind.i64.wrap ((BitVec.ofInt 64 (x : Int) ^^^ BitVec.ofInt 64 (-1)).toNat : Int) = _
  rw [BitVec.xor_comm]
  exact Lib.i64_not x hx
theorem i64_xor_0 (x : Nat) (hx : x < 9223372036854775808) : bits .xor .i64 (x : Int) 0 = (x : Int) := by
  show IntKind.i64.wrap ((BitVec.ofInt 64 (x : Int) ^^^ BitVec.ofInt 64 0).toNat : Int) = _
  have h2 : (BitVec.ofInt 64 (x : Int)).toNat = x := by
    rw [BitVec.ofInt_natCast, BitVec.toNat_ofNat]; exact Nat.mod_eq_of_lt (by omega)
  rw [BitVec.toNat_xor, h2, show (BitVec.ofInt 64 0).toNat = 0 from by decide, Nat.xor_zero, IntKind.wrap_i64]
  omega
theorem ret_i64 {a b : Int} (h : a = b) : Ending.returned (.int .i64 a) = .returned (.int .i64 b) := by rw [h]
def rdNum : List UInt8 → Nat × Nat × Int
  | [] => (0, 0, 5)
  | b :: t => if b.toNat ≤ 247 then (b.toNat, 1, 0) else if t.length < b.toNat - 247 then (0, 0, 5) else
      if joinN (t.take (b.toNat - 247)) < leastN (b.toNat - 247) then (0, 0, 3) else (joinN (t.take (b.toNat - 247)), b.toNat - 247 + 1, 0)
theorem head_drop (s : ByteArray) (h : 0 < s.size) : s.data.toList = s[0] :: s.data.toList.drop 1 := by
  have hl : 0 < s.data.toList.length := by simpa using h
  exact List.drop_eq_getElem_cons (l := s.data.toList) (i := 0) hl
theorem ret_num {a b c d e : Int} (h : a = c) (h' : b = d) : Ending.returned (.tuple #[.int .u64 a, .int .i64 b, .int .i64 e]) = .returned (.tuple #[.int .u64 c, .int .i64 d, .int .i64 e]) := by rw [h, h']
set_option maxRecDepth 10000 in
set_option maxHeartbeats 400000 in
theorem number_any (s : ByteArray) (hs : s.size ≤ 9223372036854775807) (w : World) :
    Calls Try.prog 83 #[.string s] w fun e w' => e = .returned (.tuple #[.int .u64 (rdNum s.data.toList).1, .int .i64 (rdNum s.data.toList).2.1, .int .i64 (rdNum s.data.toList).2.2]) ∧ w = w' := by
  by_cases h0 : s.size = 0
  · have e0 : s = ⟨#[]⟩ := by
      apply ByteArray.ext
      exact Array.eq_empty_of_size_eq_zero h0
    subst e0
    go_enter Try.func83, Try.ntmps83
    go_wp2_with fail
    go_ret3
    exact ⟨rfl, rfl⟩
  have h1 : 0 < s.size := by omega
  have he := head_drop s h1
  have hne : s.toList.isEmpty = false := by
    rw [Lib.toList_data, he]; rfl
  have hb := s[0].toNat_lt
  have hbi : (s[0].toNat : Int) ≤ 255 := by omega
  have He := Lib.hid he
  clear he
  by_cases h2 : s[0].toNat ≤ 247
  · go_enter Try.func83, Try.ntmps83
    go_wp2_with fail
    go_ret3
    refine ⟨?_, rfl⟩
    rw [He.out]; simp only [rdNum, if_pos h2]; rfl
  by_cases h3 : s.size < s[0].toNat - 247 + 1
  · go_enter Try.func83, Try.ntmps83
    go_wp2_with fail
    go_ret3
    refine ⟨?_, rfl⟩
    rw [He.out]; simp only [rdNum, if_neg h2]; rw [if_pos (by simp; omega)]; rfl
  · go_enter Try.func83, Try.ntmps83
    go_wp2_with fail
    refine (join_any _ (by simp; omega) _).mono ?_
    rintro e w1 ⟨rfl, rfl⟩
    go_wp2_with fail
    refine (least_any _ (by omega) (by omega) _).mono ?_
    rintro e w1 ⟨rfl, rfl⟩
    generalize hJ : joinN (List.take (1 + s[0].toNat - 247 - 1) s.data.toList.tail) = J at *
    generalize hL : leastN (1 + (s[0].toNat : Int) - 247 - 1).toNat = L at *
    have HJ := Lib.hid hJ
    have HL := Lib.hid hL
    clear hJ hL
    have eJ : joinN ((s.data.toList.drop 1).take (s[0].toNat - 247)) = J := by
      rw [List.drop_one, ← HJ.out, show 1 + s[0].toNat - 247 - 1 = s[0].toNat - 247 from by omega]
    have eL : leastN (s[0].toNat - 247) = L := by
      rw [← HL.out, show (1 + (s[0].toNat : Int) - 247 - 1).toNat = s[0].toNat - 247 from by omega]
    have EJ := Lib.hid eJ
    have EL := Lib.hid eL
    clear eJ eL
    by_cases hlt : J < L
    · have hlt' : (J : Int) < (L : Int) := by omega
      go_wp2_with fail
      go_ret3
      refine ⟨?_, rfl⟩
      rw [He.out]; simp only [rdNum, if_neg h2]
      rw [if_neg (by simp; omega), EJ.out, EL.out, if_pos hlt]; rfl
    · have hlt' : ¬ (J : Int) < (L : Int) := by omega
      go_wp2_with fail
      go_ret3
      refine ⟨?_, rfl⟩
      rw [He.out]; simp only [rdNum, if_neg h2]
      rw [if_neg (by simp; omega), EJ.out, EL.out, if_neg hlt]
      refine ret_num rfl ?_
      show (1 + (s[0].toNat : Int) - 247) = ((s[0].toNat - 247 + 1 : Nat) : Int)
      omega
end Go.Proofs.Ytbghjcfepjbppaa.Bt
/-
  THE WALK OF bits.text: the text of at most so many bytes at the front of bytes.
-/
namespace Go.Proofs.Ytbghjcfepjbppaa.Bt
open Go.RowKit
theorem clone_any (s : ByteArray) (w : World) (hs : s.size ≤ 281474976710656) :
    Calls Try.prog 53 #[.string s] w fun e w' => e = .returned (.string s) ∧ Below w.heap.size w w' := by
  go_enter Try.func53, Try.ntmps53
  go_wp2_with fail
  refine (lite_clone s _ hs).mono ?_
  rintro e w1 ⟨rfl, hb⟩
  go_wp2_with fail
  go_ret
  exact ⟨rfl, hb⟩
theorem joinN_u64 (l : List UInt8) (h : l.length ≤ 8) : joinN l < 18446744073709551616 :=
  Nat.lt_of_lt_of_le (joinN_lt l) (Nat.le_trans (Nat.pow_le_pow_right (by decide) h) (by decide))
/-- what is read of a number lies in the bytes -/
theorem rdNum_facts (l : List UInt8) : (rdNum l).1 < 18446744073709551616 ∧ (rdNum l).2.1 ≤ l.length ∧ ((rdNum l).2.2 = 0 ∨ ((rdNum l).2.2 = 5 ∧ (rdNum l).1 = 0 ∧ (rdNum l).2.1 = 0) ∨ ((rdNum l).2.2 = 3 ∧ (rdNum l).1 = 0 ∧ (rdNum l).2.1 = 0)) := by
  match l with
  | [] => simp [rdNum]
  | b :: t =>
    have hb := b.toNat_lt
    simp only [rdNum]
    split
    · simp; omega
    · split
      · simp
      · split
        · simp
        · have hj := joinN_u64 (t.take (b.toNat - 247)) (by rw [List.length_take]; omega)
          simp only [true_or, and_true, List.length_cons]
          exact ⟨hj, by omega⟩
/-- the text of at most so many bytes at the front of s -/
def rdText (s : ByteArray) (most : Int) : ByteArray × Nat × Int :=
  if (rdNum s.data.toList).2.2 ≠ 0 then (⟨#[]⟩, 0, (rdNum s.data.toList).2.2)
  else if max most 0 < ((rdNum s.data.toList).1 : Int) then (⟨#[]⟩, 0, 2)
  else if s.size - (rdNum s.data.toList).2.1 < (rdNum s.data.toList).1 then (⟨#[]⟩, 0, 5)
  else (s.extract (rdNum s.data.toList).2.1 ((rdNum s.data.toList).2.1 + (rdNum s.data.toList).1), (rdNum s.data.toList).2.1 + (rdNum s.data.toList).1, 0)
/-- what rtxt says of a read number -/
theorem rdText_eq (s : ByteArray) (most : Int) {N K : Nat} {E : Int} (h : rdNum s.data.toList = (N, K, E)) :
    rdText s most = if E ≠ 0 then (⟨#[]⟩, 0, E) else if max most 0 < (N : Int) then (⟨#[]⟩, 0, 2) else if s.size - K < N then (⟨#[]⟩, 0, 5) else (s.extract K (K + N), K + N, 0) := by
  unfold rdText; rw [h]
def txtR (x : ByteArray × Nat × Int) : Value := .tuple #[.string x.1, .int .i64 x.2.1, .int .i64 x.2.2]
theorem ret_txt {x : ByteArray × Nat × Int} {a : ByteArray} {b c : Int} {k : Nat} (h : x = (a, k, c)) (hb : b = k) : Ending.returned (.tuple #[.string a, .int .i64 b, .int .i64 c]) = .returned (txtR x) := by
  subst h; subst hb; rfl
end Go.Proofs.Ytbghjcfepjbppaa.Bt
/-
  A TAPE IN MEMORY, AND THE WALKS OF At, Rest, Err, End.
-/
namespace Go.Proofs.Ytbghjcfepjbppaa.Bt
open Go.RowKit
/-- the tape in block b: what is left, and the error -/
def TapeAt (w : World) (b : Nat) (s : ByteArray) (e : Int) : Prop := w.heap[b]? = some (.cells #[.string s, .int .i64 e] 157 (0, 0))
theorem TapeAt.lt {w : World} {b : Nat} {s : ByteArray} {e : Int} (h : TapeAt w b s e) : b < w.heap.size := by
  unfold TapeAt at h
  rcases Nat.lt_or_ge b w.heap.size with h' | h'
  · exact h'
  · rw [Array.getElem?_eq_none h'] at h; simp at h
theorem TapeAt.c0 {w : World} {b : Nat} {s : ByteArray} {e : Int} (h : TapeAt w b s e) : w.cell? ⟨b, 0, none⟩ = some (.string s) := by
  unfold TapeAt at h; simp [World.cell?, h]
theorem TapeAt.c1 {w : World} {b : Nat} {s : ByteArray} {e : Int} (h : TapeAt w b s e) : w.cell? ⟨b, 1, none⟩ = some (.int .i64 e) := by
  unfold TapeAt at h; simp [World.cell?, h]
theorem TapeAt.f {w : World} {b : Nat} {s : ByteArray} {e : Int} (h : TapeAt w b s e) (o : Nat) : w.frozen? ⟨b, o, none⟩ = false := by
  unfold TapeAt at h; simp [World.frozen?, h]
theorem TapeAt.below {w w' : World} {b B : Nat} {s : ByteArray} {e : Int} (h : TapeAt w b s e) (hb : Below B w w') (hB : b < B) : TapeAt w' b s e := by
  unfold TapeAt at *; rw [hb.block b hB]; exact h
theorem TapeAt.next {w w' : World} {b : Nat} {s : ByteArray} {e : Int} (h : TapeAt w b s e) (hb : Below w.heap.size w w') : TapeAt w' b s e := h.below hb h.lt
theorem TapeAt.set0 {w : World} {b : Nat} {s s' : ByteArray} {e : Int} (h : TapeAt w b s e) : TapeAt (w.setCell ⟨b, 0, none⟩ (.string s')) b s' e := by
  unfold TapeAt at *
  simp [World.setCell, Array.getElem?_modify, h]
theorem TapeAt.set1 {w : World} {b : Nat} {s : ByteArray} {e e' : Int} (h : TapeAt w b s e) : TapeAt (w.setCell ⟨b, 1, none⟩ (.int .i64 e')) b s e' := by
  unfold TapeAt at *
  simp [World.setCell, Array.getElem?_modify, h]
theorem grownBy_below {w w' : World} (h : Below w.heap.size w w') (r : Option Nat) : w.grownBy w' r := ⟨h.os, h.tape, h.output, h.size, fun k hk _ => h.block k hk⟩
theorem grownBy_set {w w' : World} (h : Below w.heap.size w w') (b o : Nat) (v : Value) : w.grownBy (w'.setCell ⟨b, o, none⟩ v) (some b) :=
  ⟨h.os, h.tape, h.output, by rw [World.size_setCell]; exact h.size, fun k hk hne => by rw [Below.heap_setCell _ _ _ _ (fun e => hne (by rw [e]))]; exact h.block k hk⟩
theorem err_any {w : World} {b : Nat} {s : ByteArray} {e : Int} (h : TapeAt w b s e) :
    Calls Try.prog 84 #[.pointer (some ⟨b, 0, none⟩)] w fun r w' => r = .returned (.int .i64 e) ∧ w = w' := by
  have h1 := h.c1
  go_enter Try.func84, Try.ntmps84
  go_wp2_with fail
  go_ret
  exact ⟨rfl, rfl⟩
theorem err_nil (w : World) : Calls Try.prog 84 #[.pointer none] w fun r w' => r = .returned (.int .i64 1) ∧ w = w' := by
  go_enter Try.func84, Try.ntmps84
  go_wp2_with fail
  go_ret
  exact ⟨rfl, rfl⟩
theorem end_nil (w : World) : Calls Try.prog 62 #[.pointer none] w fun r w' => r = .returned (.int .i64 1) ∧ w = w' := by
  go_enter Try.func62, Try.ntmps62
  go_wp2_with fail
  refine (err_nil _).mono ?_
  rintro e w1 ⟨rfl, rfl⟩
  go_wp2_with fail
  go_ret
  exact ⟨rfl, rfl⟩
/-- the error behind the end -/
def endE (s : ByteArray) (e : Int) : Int := if e ≠ 0 then e else if s.size = 0 then 0 else 3
theorem end_any {w : World} {b : Nat} {s : ByteArray} {e : Int} (h : TapeAt w b s e) :
    Calls Try.prog 62 #[.pointer (some ⟨b, 0, none⟩)] w fun r w' => r = .returned (.int .i64 (endE s e)) ∧ w = w' := by
  have h0 := h.c0
  by_cases he : e = 0
  · subst he
    by_cases hs : s.size = 0
    · have e0 : s = ⟨#[]⟩ := by
        apply ByteArray.ext
        exact Array.eq_empty_of_size_eq_zero hs
      subst e0
      go_enter Try.func62, Try.ntmps62
      go_wp2_with fail
      refine (err_any h).mono ?_
      rintro r w1 ⟨rfl, rfl⟩
      go_wp2_with fail
      go_ret
      exact ⟨rfl, rfl⟩
    · have hne : s.toList.isEmpty = false := by
        rw [Lib.toList_data, head_drop s (by omega)]; rfl
      have hne2 : (!s.toList.isEmpty) = true := by rw [hne]; rfl
      go_enter Try.func62, Try.ntmps62
      go_wp2_with fail
      refine (err_any h).mono ?_
      rintro r w1 ⟨rfl, rfl⟩
      go_wp2_with fail
      go_ret
      exact ⟨ret_i64 (by unfold endE; rw [if_neg (by simp), if_neg hs]), rfl⟩
  · have hEb : (e != 0) = true := by simp [he]
    go_enter Try.func62, Try.ntmps62
    go_wp2_with fail
    refine (err_any h).mono ?_
    rintro r w1 ⟨rfl, rfl⟩
    go_wp2_with fail
    go_ret
    exact ⟨ret_i64 (by unfold endE; rw [if_pos he]), rfl⟩
theorem at_any (s : ByteArray) (w : World) (hs : s.size ≤ 281474976710656) :
    Calls Try.prog 59 #[.string s] w fun r w' => ∃ b, r = .returned (.pointer (some ⟨b, 0, none⟩)) ∧ w.heap.size ≤ b ∧ TapeAt w' b s 0 ∧ Below w.heap.size w w' := by
  go_enter Try.func59, Try.ntmps59
  go_wp2_with fail
  refine (clone_any _ _ hs).mono ?_
  rintro r w1 ⟨rfl, hb⟩
  go_wp2_with fail
  go_ret
  refine ⟨w1.heap.size, rfl, hb.size, ?_, hb.alloc hb.size _⟩
  unfold TapeAt
  exact heap_alloc_new _ _
end Go.Proofs.Ytbghjcfepjbppaa.Bt
/-
  THE WALKS OF REAL NUMBERS: bits.code, bits.Real and the document own; a float is its 64 bits.
-/
namespace Go.Proofs.Ytbghjcfepjbppaa.Bt
open Go.RowKit
theorem run_bits (b : Nat) (w : World) : (callFunc 88 #[.float .f64 b]).run Try.prog w = .ok (.value (.int .u64 (b : Int))) w := by
  rw [run_callFunc_extern (P := Try.prog) (e := Extern.MathFloatBits.float64bits) Try.func88 (by kernel_rfl) (by kernel_rfl) (by kernel_rfl) (by kernel_rfl)]
  rfl
/-- is it none? -/
def isNo (f : Nat) : Bool := FloatKind.f64.format.order f f != some Ordering.eq
/-- a real number's bits, one for all that are none -/
def codeN (f : Nat) : Nat := if isNo f then 9221120237041090561 else f
theorem isnan_any (f : Nat) (w : World) :
    Calls Try.prog 108 #[.float .f64 f] w fun r w' => r = .returned (.bool (isNo f)) ∧ w = w' := by
  go_enter Try.func108, Try.ntmps108
  go_wp2
  go_ret
  exact ⟨rfl, rfl⟩
theorem code_any (f : Nat) (w : World) :
    Calls Try.prog 107 #[.float .f64 f] w fun r w' => r = .returned (.int .u64 (codeN f)) ∧ w = w' := by
  have hb := run_bits f
  by_cases h : isNo f
  · go_enter Try.func107, Try.ntmps107
    go_wp2_with fail
    refine (isnan_any f _).mono ?_
    rintro e w1 ⟨rfl, rfl⟩
    go_wp2_with fail
    go_ret
    exact ⟨ret_u64 (by unfold codeN; rw [if_pos h]; rfl), rfl⟩
  · have h' : isNo f = false := by simpa using h
    go_enter Try.func107, Try.ntmps107
    go_wp2_with fail
    refine (isnan_any f _).mono ?_
    rintro e w1 ⟨rfl, rfl⟩
    go_wp2_with fail
    go_ret
    exact ⟨ret_u64 (by unfold codeN; rw [if_neg h]), rfl⟩
theorem rbits_any (f : Nat) (w : World) :
    Calls Try.prog 94 #[.float .f64 f] w fun r w' => r = .returned (.int .u64 (codeN f)) ∧ w = w' := by
  have hb := run_bits f
  by_cases h : isNo f
  · have h' : (FloatKind.f64.format.order f f != some Ordering.eq) = true := h
    go_enter Try.func94, Try.ntmps94
    go_wp2_with fail
    go_ret
    exact ⟨ret_u64 (by unfold codeN; rw [if_pos h]; rfl), rfl⟩
  · have h' : (FloatKind.f64.format.order f f != some Ordering.eq) = false := by simpa [isNo] using h
    go_enter Try.func94, Try.ntmps94
    go_wp2_with fail
    go_ret
    exact ⟨ret_u64 (by unfold codeN; rw [if_neg h]), rfl⟩

theorem codeN_lt {f : Nat} (h : f < 18446744073709551616) : codeN f < 18446744073709551616 := by
  unfold codeN; split
  · decide
  · exact h
/-- a real number's bytes -/
def realS (f : Nat) : ByteArray := strOfNums (be 8 (codeN f))
theorem ret_strs {a b : List Int} {e : Ending} (h : a = b) (he : e = .returned (.string (strOfNums a))) : e = .returned (.string (strOfNums b)) := by rw [he, h]
set_option maxRecDepth 100000 in
set_option maxHeartbeats 1000000 in
theorem real_core (f : Nat) (c c1 c2 c3 c4 c5 c6 c7 c8 : Int) (h0 : 0 ≤ c) (h1 : c < 18446744073709551616) (hcode : Hid (∀ w, Calls Try.prog 107 #[.float .f64 f] w fun r w' => r = .returned (.int .u64 c) ∧ w = w'))
    (hc : laid c = #[.int .u8 0, .int .u8 c1, .int .u8 c2, .int .u8 c3, .int .u8 c4, .int .u8 c5, .int .u8 c6, .int .u8 c7, .int .u8 c8]) (w : World) :
    Calls Try.prog 105 #[.float .f64 f] w fun r w' => r = .returned (.string (strOfNums [c1, c2, c3, c4, c5, c6, c7, c8])) ∧ Below w.heap.size w w' := by
  have Hc := Lib.hid hc
  clear hc
  have hconv := fun W : World => conv_new W [.int .u8 0, .int .u8 c1, .int .u8 c2, .int .u8 c3, .int .u8 c4, .int .u8 c5, .int .u8 c6, .int .u8 c7, .int .u8 c8] [c1, c2, c3, c4, c5, c6, c7, c8] 1 rfl 8 rfl 154 8
  go_enter Try.func105, Try.ntmps105
  go_wp2_with fail
  refine (hcode.out _).mono ?_
  rintro e w1 ⟨rfl, rfl⟩
  go_wp2_with fail
  refine (lay_cells _ _ (by omega) (by omega) Hc.out _).mono ?_
  rintro e w1 ⟨rfl, hb⟩
  go_wp2_with fail
  go_ret
  exact ⟨rfl, hb.alloc hb.size _⟩
theorem real_any (f : Nat) (hf : f < 18446744073709551616) (w : World) :
    Calls Try.prog 105 #[.float .f64 f] w fun r w' => r = .returned (.string (realS f)) ∧ Below w.heap.size w w' := by
  have hlt := codeN_lt hf
  refine (real_core f (codeN f) _ _ _ _ _ _ _ _ (by omega) (by omega) (fun w => code_any f w) rfl w).mono fun r w' ⟨hr, hb⟩ => ⟨ret_strs ?_ hr, hb⟩
  simp only [be, List.nil_append, List.cons_append, List.cons.injEq, and_true]; omega
set_option maxRecDepth 100000 in
set_option maxHeartbeats 1000000 in
theorem rreal_core (f : Nat) (c : Int) (h0 : 0 ≤ c) (h1 : c < 18446744073709551616) (hcode : Hid (∀ w, Calls Try.prog 94 #[.float .f64 f] w fun r w' => r = .returned (.int .u64 c) ∧ w = w')) (w : World) :
    Calls Try.prog 103 #[.float .f64 f] w fun r w' => r = .returned (.string (strOfNums [c / 72057594037927936, c / 281474976710656 % 256, c / 1099511627776 % 256, c / 4294967296 % 256, c / 16777216 % 256, c / 65536 % 256, c / 256 % 256, c % 256])) ∧ Below w.heap.size w w' := by
  have o0 : Bytes w w.heap.size (.slice none 0 0) [] := World.ownsRow_nil _ _ _ _
  go_enter Try.func103, Try.ntmps103
  go_wp2_with fail
  refine wp_loop_rounds 10 ?_
  rw [rounds_succ]
  go_wp2_with fail
  refine (hcode.out _).mono ?_
  rintro e u1 ⟨rfl, rfl⟩
  go_wp2_with (at_builtin; refine append_byte _ rfl _ _ rfl w.heap.size _ _ rfl o0 _ rfl (by simp) (by omega) ?_; intro v1 w1 o1 b1)
  have z1 := b1.size
  rw [rounds_succ]
  go_wp2_with fail
  refine (hcode.out _).mono ?_
  rintro e u2 ⟨rfl, rfl⟩
  go_wp2_with (at_builtin; refine append_byte _ rfl _ _ rfl w.heap.size _ _ rfl o1 _ rfl (by simp) (by omega) ?_; intro v2 w2 o2 b2)
  have z2 := b2.size
  rw [rounds_succ]
  go_wp2_with fail
  refine (hcode.out _).mono ?_
  rintro e u3 ⟨rfl, rfl⟩
  go_wp2_with (at_builtin; refine append_byte _ rfl _ _ rfl w.heap.size _ _ rfl o2 _ rfl (by simp) (by omega) ?_; intro v3 w3 o3 b3)
  have z3 := b3.size
  rw [rounds_succ]
  go_wp2_with fail
  refine (hcode.out _).mono ?_
  rintro e u4 ⟨rfl, rfl⟩
  go_wp2_with (at_builtin; refine append_byte _ rfl _ _ rfl w.heap.size _ _ rfl o3 _ rfl (by simp) (by omega) ?_; intro v4 w4 o4 b4)
  have z4 := b4.size
  rw [rounds_succ]
  go_wp2_with fail
  refine (hcode.out _).mono ?_
  rintro e u5 ⟨rfl, rfl⟩
  go_wp2_with (at_builtin; refine append_byte _ rfl _ _ rfl w.heap.size _ _ rfl o4 _ rfl (by simp) (by omega) ?_; intro v5 w5 o5 b5)
  have z5 := b5.size
  rw [rounds_succ]
  go_wp2_with fail
  refine (hcode.out _).mono ?_
  rintro e u6 ⟨rfl, rfl⟩
  go_wp2_with (at_builtin; refine append_byte _ rfl _ _ rfl w.heap.size _ _ rfl o5 _ rfl (by simp) (by omega) ?_; intro v6 w6 o6 b6)
  have z6 := b6.size
  rw [rounds_succ]
  go_wp2_with fail
  refine (hcode.out _).mono ?_
  rintro e u7 ⟨rfl, rfl⟩
  go_wp2_with (at_builtin; refine append_byte _ rfl _ _ rfl w.heap.size _ _ rfl o6 _ rfl (by simp) (by omega) ?_; intro v7 w7 o7 b7)
  have z7 := b7.size
  rw [rounds_succ]
  go_wp2_with fail
  refine (hcode.out _).mono ?_
  rintro e u8 ⟨rfl, rfl⟩
  go_wp2_with (at_builtin; refine append_byte _ rfl _ _ rfl w.heap.size _ _ rfl o7 _ rfl (by simp) (by omega) ?_; intro v8 w8 o8 b8)
  have z8 := b8.size
  have hcv := conv_own o8
  rw [rounds_succ]
  go_wp2_with fail
  go_ret
  exact ⟨rfl, (((((((b1.trans b2).trans b3).trans b4).trans b5).trans b6).trans b7).trans b8)⟩
theorem rreal_any (f : Nat) (hf : f < 18446744073709551616) (w : World) :
    Calls Try.prog 103 #[.float .f64 f] w fun r w' => r = .returned (.string (realS f)) ∧ Below w.heap.size w w' := by
  have hlt := codeN_lt hf
  refine (rreal_core f (codeN f) (by omega) (by omega) (fun w => rbits_any f w) w).mono fun r w' ⟨hr, hb⟩ => ⟨ret_strs ?_ hr, hb⟩
  simp only [be, List.nil_append, List.cons_append, List.cons.injEq, and_true]; omega
end Go.Proofs.Ytbghjcfepjbppaa.Bt
/-
  THE TEXT OF AN EVENT, PLAIN: what a value's kind names, a field's text, an event's.
-/
namespace Go.Proofs.Ytbghjcfepjbppaa
open Go.RowKit
def whatS (v : Val) : ByteArray := if v.k = 1 then Bt.intS v.n else if v.k = 2 then Bt.realS v.f else Bt.textS v.s
def fldS (x : Fld) : ByteArray := Bt.textS x.nm ++ (Bt.numS x.v.k ++ whatS x.v)
def fldsS : List Fld → ByteArray
  | [] => ⟨#[]⟩
  | x :: l => fldS x ++ fldsS l
def headS (a b c : Int) (k : ByteArray) (n : Int) : ByteArray := Bt.numS a ++ (Bt.numS b ++ (Bt.numS c ++ (Bt.textS k ++ Bt.numS n)))
def evS (a b c : Int) (k : ByteArray) (L : List Fld) : ByteArray := headS a b c k (L.length : Int) ++ fldsS L
theorem ba_ext {a b : ByteArray} (h : a.data.toList = b.data.toList) : a = b := ByteArray.ext (Array.toList_inj.1 h)
theorem ba_assoc (a b c : ByteArray) : a ++ b ++ c = a ++ (b ++ c) := ba_ext (by simp)
theorem ba_nil (a : ByteArray) : a ++ ⟨#[]⟩ = a := ba_ext (by simp)
theorem nil_ba (a : ByteArray) : (⟨#[]⟩ : ByteArray) ++ a = a := ba_ext (by simp)
theorem ba_size (a b : ByteArray) : (a ++ b).size = a.size + b.size := ByteArray.size_append
theorem fldsS_one : ∀ (l : List Fld) (x : Fld), fldsS (l ++ [x]) = fldsS l ++ fldS x
  | [], x => by show fldS x ++ ⟨#[]⟩ = ⟨#[]⟩ ++ fldS x; rw [ba_nil, nil_ba]
  | y :: l, x => by show fldS y ++ fldsS (l ++ [x]) = fldS y ++ fldsS l ++ fldS x; rw [fldsS_one l x, ba_assoc]
theorem fldsS_take {L : List Fld} {j : Nat} (h : j < L.length) : fldsS (L.take (j + 1)) = fldsS (L.take j) ++ fldS L[j] := by
  rw [List.take_succ_eq_append_getElem h, fldsS_one]
theorem textS_size (s : ByteArray) : (Bt.textS s).size ≤ s.size + 9 := by
  unfold Bt.textS
  rw [ba_size]
  have := Bt.numS_size (s.size : Int)
  omega
theorem intS_size (n : Int) : (Bt.intS n).size ≤ 9 := Bt.numS_size _
theorem strOfNums_size (l : List Int) : (strOfNums l).size = l.length := by rw [Lib.size_eq]; simp [strOfNums]
theorem realS_size (f : Nat) : (Bt.realS f).size = 8 := by unfold Bt.realS; rw [strOfNums_size, Bt.be_len]
theorem whatS_size {v : Val} (h : v.k ≠ 3 ∨ v.s.size ≤ 64) (hk : isK v = true) : (whatS v).size ≤ 73 := by
  unfold whatS
  have i := intS_size v.n
  have r := realS_size v.f
  have t := textS_size v.s
  split
  · omega
  · split
    · omega
    · rename_i h1 h2
      have : v.k = 3 := by
        unfold isK at hk
        simp only [Bool.or_eq_true, decide_eq_true_eq] at hk
        omega
      have := h.resolve_left (by omega)
      omega
theorem mayB_facts {v : Val} (h : mayB v = true) : isK v = true ∧ (v.k ≠ 3 ∨ v.s.size ≤ 64) := by
  unfold mayB at h
  unfold isK
  split at h
  · rename_i h1; exact ⟨by simp [h1], Or.inl (by omega)⟩
  · split at h
    · rename_i h1; exact ⟨by simp [h1], Or.inl (by omega)⟩
    · split at h
      · rename_i h1
        simp only [Bool.and_eq_true, decide_eq_true_eq] at h
        exact ⟨by simp [h1], Or.inr h.1⟩
      · cases h
theorem wordB_size {s : ByteArray} (h : wordB s = true) : s.size ≤ 16 := by
  unfold wordB at h
  simp only [Bool.and_eq_true, decide_eq_true_eq] at h
  exact h.1.1.2
theorem okTo_at {L : List Fld} {n i : Nat} (h : okTo L n = true) (hi : i < n) : okAt L i = true := by
  unfold okTo at h
  exact (List.all_eq_true.1 h) i (List.mem_range.2 hi)
theorem okAt_facts {L : List Fld} {i : Nat} (hi : i < L.length) (h : okAt L i = true) : wordB L[i].nm = true ∧ mayB L[i].v = true := by
  unfold okAt at h
  rw [List.getElem?_eq_getElem hi] at h
  simp only [Bool.and_eq_true] at h
  exact h.2
/-- what an event that may be has -/
theorem chk_facts {a b c : Int} {k : ByteArray} {L : List Fld} (h : chkB a b c k L = true) :
    (0 ≤ a ∧ a ≤ 549755813888) ∧ (0 ≤ b ∧ b ≤ 549755813888) ∧ (0 ≤ c ∧ c ≤ 549755813888) ∧ k.size ≤ 16 ∧ L.length ≤ 8 ∧
    ∀ i (hi : i < L.length), L[i].nm.size ≤ 16 ∧ isK L[i].v = true ∧ (whatS L[i].v).size ≤ 73 ∧ (L[i].v.k ≠ 3 ∨ L[i].v.s.size ≤ 64) := by
  unfold chkB numB fieldsB at h
  simp only [Bool.and_eq_true, decide_eq_true_eq] at h
  obtain ⟨ha, hb, hc, hk, hl, ho⟩ := h
  refine ⟨ha, hb, hc, wordB_size hk, hl, fun i hi => ?_⟩
  obtain ⟨h1, h2⟩ := okAt_facts hi (okTo_at ho hi)
  obtain ⟨m1, m2⟩ := mayB_facts h2
  exact ⟨wordB_size h1, m1, whatS_size m2 m1, m2⟩
theorem fldS_size {x : Fld} (h1 : x.nm.size ≤ 16) (h2 : (whatS x.v).size ≤ 73) : (fldS x).size ≤ 107 := by
  unfold fldS
  rw [ba_size, ba_size]
  have := textS_size x.nm
  have := Bt.numS_size x.v.k
  omega
theorem fldsS_size : ∀ {l : List Fld}, (∀ x ∈ l, (fldS x).size ≤ 107) → (fldsS l).size ≤ 107 * l.length
  | [], _ => by show (0 : Nat) ≤ _; omega
  | x :: l, h => by
    have := fldsS_size (l := l) (fun y hy => h y (by simp [hy]))
    have := h x (by simp)
    show (fldS x ++ fldsS l).size ≤ _
    rw [ba_size, List.length_cons]
    omega
theorem headS_size (a b c : Int) {k : ByteArray} (n : Int) (h : k.size ≤ 16) : (headS a b c k n).size ≤ 61 := by
  unfold headS
  rw [ba_size, ba_size, ba_size, ba_size]
  have := textS_size k
  have := Bt.numS_size a
  have := Bt.numS_size b
  have := Bt.numS_size c
  have := Bt.numS_size n
  omega
end Go.Proofs.Ytbghjcfepjbppaa
/-
  WHAT A VALUE's KIND NAMES, WRITTEN: event.what.
-/
namespace Go.Proofs.Ytbghjcfepjbppaa
open Go.RowKit
set_option maxHeartbeats 1000000 in
theorem what_any (v : Val) (hw : v.Wf) (hs : v.s.size ≤ 9223372036854775798) (w : World) : Calls Try.prog 99 #[v.val] w fun e w' => e = .returned (.string (whatS v)) ∧ Below w.heap.size w w' := by
  obtain ⟨k, n, f, s⟩ := v
  obtain ⟨_, n0, n1, hf⟩ := hw
  simp only at n0 n1 hf hs
  have I := Lib.hid (fun w => Bt.int_any n n0 n1 w)
  have R := Lib.hid (fun w => Bt.real_any f hf w)
  have T := Lib.hid (fun w => Bt.text_any s hs w)
  unfold Val.val whatS
  simp only
  obtain ⟨w1, hw1, K1, B1⟩ : ∃ w1, w1 = w.alloc (.cells #[.int .i64 k, .int .i64 n, .float .f64 f, .string s] 103) ∧ Blk w1 w.heap.size 103 #[.int .i64 k, .int .i64 n, .float .f64 f, .string s] ∧ Below w.heap.size w w1 := ⟨_, rfl, heap_alloc_new w _, (Below.refl _ w).alloc (Nat.le_refl _) _⟩
  have W1 := Lib.hid hw1
  have B1h := Lib.hid B1
  have e0 : w1.cell? ⟨w.heap.size, 0, none⟩ = some (.int .i64 k) := K1.cell 0
  have e1 : w1.cell? ⟨w.heap.size, 1, none⟩ = some (.int .i64 n) := K1.cell 1
  have e2 : w1.cell? ⟨w.heap.size, 2, none⟩ = some (.float .f64 f) := K1.cell 2
  have e3 : w1.cell? ⟨w.heap.size, 3, none⟩ = some (.string s) := K1.cell 3
  clear hw1 B1 K1 n0 n1 hf hs
  generalize hy : w.heap.size = Y at *
  by_cases h1 : k = 1
  · subst h1
    rw [if_pos rfl]
    go_enter Try.func99, Try.ntmps99
    go_wp2_with fail
    rw [← W1.out]
    go_wp2_with fail
    refine (I.out _).mono ?_
    rintro e w2 ⟨rfl, b2⟩
    have B2h := Lib.hid (B1h.out.trans (b2.mono (by have := B1h.out.size; omega)))
    clear b2
    go_wp2_with fail
    go_ret
    exact ⟨rfl, B2h.out⟩
  rw [if_neg h1]
  by_cases h2 : k = 2
  · subst h2
    rw [if_pos rfl]
    clear h1
    go_enter Try.func99, Try.ntmps99
    go_wp2_with fail
    rw [← W1.out]
    go_wp2_with fail
    refine (R.out _).mono ?_
    rintro e w2 ⟨rfl, b2⟩
    have B2h := Lib.hid (B1h.out.trans (b2.mono (by have := B1h.out.size; omega)))
    clear b2
    go_wp2_with fail
    go_ret
    exact ⟨rfl, B2h.out⟩
  rw [if_neg h2]
  have d1 : (k == 1) = false := by simpa using h1
  have d2 : (k == 2) = false := by simpa using h2
  clear h1 h2
  go_enter Try.func99, Try.ntmps99
  go_wp2_with fail
  rw [← W1.out]
  go_wp2_with fail
  refine (T.out _).mono ?_
  rintro e w2 ⟨rfl, b2⟩
  have B2h := Lib.hid (B1h.out.trans (b2.mono (by have := B1h.out.size; omega)))
  clear b2
  go_wp2_with fail
  go_ret
  exact ⟨rfl, B2h.out⟩
end Go.Proofs.Ytbghjcfepjbppaa
