/-
  WHAT THE ROWS REST ON, part 5: Tfr Tad Tnx Tld.
-/
import Derived.Deep.AppendLies
import Derived.Deep.RegionLaw
import Derived.Laws.OwnMore
import Derived.Laws.NewBlocks
import Derived.Deep.Cut
import Derived.Deep.RegionHeld3
import Derived.Test.YtggjpallbapcmaaPart4
/-
  FRAMES BY BLOCKS; what was added to a teller.
-/
namespace Go.Proofs.Ytggjpallbapcmaa
open Go.RowKit
/-- blocks off P are as they were -/
structure Fr (w w' : World) (P : Nat → Prop) : Prop where
  os : w'.os = w.os
  tape : w'.tape = w.tape
  output : w'.output = w.output
  size : w.heap.size ≤ w'.heap.size
  block : ∀ q, q < w.heap.size → ¬ P q → w'.heap[q]? = w.heap[q]?
theorem Fr.refl (w : World) (P : Nat → Prop) : Fr w w P := ⟨rfl, rfl, rfl, Nat.le_refl _, fun _ _ _ => rfl⟩
theorem Fr.trans {a b c : World} {P Q R : Nat → Prop} (h : Fr a b P) (k : Fr b c Q) (hP : ∀ q, q < a.heap.size → P q → R q) (hQ : ∀ q, q < a.heap.size → Q q → R q) : Fr a c R :=
  ⟨k.os.trans h.os, k.tape.trans h.tape, k.output.trans h.output, Nat.le_trans h.size k.size, fun q hq hR => (k.block q (Nat.lt_of_lt_of_le hq h.size) (fun hh => hR (hQ q hq hh))).trans (h.block q hq (fun hh => hR (hP q hq hh)))⟩
theorem Fr.of_grown {w w' : World} {r : Option Nat} (h : w.grownBy w' r) : Fr w w' (fun q => some q = r) := ⟨h.os, h.tape, h.output, h.size, fun q hq hne => h.block q hq hne⟩
theorem Fr.of_below {w w' : World} (h : Below w.heap.size w w') (P : Nat → Prop) : Fr w w' P := ⟨h.os, h.tape, h.output, h.size, fun q hq _ => h.block q hq⟩
theorem Fr.mono {w w' : World} {P Q : Nat → Prop} (h : Fr w w' P) (hPQ : ∀ q, q < w.heap.size → P q → Q q) : Fr w w' Q := ⟨h.os, h.tape, h.output, h.size, fun q hq hn => h.block q hq (fun hh => hn (hPQ q hq hh))⟩
theorem Fr.below {w w' : World} {B : Nat} {P : Nat → Prop} (h : Fr w w' P) (hP : ∀ q, P q → B ≤ q) (hB : B ≤ w.heap.size) : Below B w w' := ⟨h.os, h.tape, h.output, h.size, fun q hq => h.block q (Nat.lt_of_lt_of_le hq hB) (fun hh => by have := hP q hh; omega)⟩
theorem fr_set (w : World) (g i : Nat) (u : Value) : Fr w (w.setCell ⟨g, i, none⟩ u) (fun q => q = g) :=
  ⟨rfl, rfl, rfl, by simp [World.setCell], fun q _ hne => Below.heap_setCell _ _ _ _ hne⟩
theorem fr_drew (w : World) (P : Nat → Prop) : Fr w w.drew P := ⟨rfl, rfl, rfl, Nat.le_refl _, fun _ _ _ => rfl⟩
theorem Fr.on {w w' w2 : World} {P : Nat → Prop} (h : Fr w w' P) (k : Fr w' w2 P) : Fr w w2 P := h.trans k (fun _ _ h => h) (fun _ _ h => h)
theorem Fr.set {w w' : World} {P : Nat → Prop} (h : Fr w w' P) (g i : Nat) (u : Value) (hg : P g ∨ w.heap.size ≤ g) : Fr w (w'.setCell ⟨g, i, none⟩ u) P :=
  h.trans (fr_set w' g i u) (fun _ _ h => h) (fun q hq e => by subst e; rcases hg with h | h; exact h; omega)
theorem Fr.al {w w' : World} {P : Nat → Prop} (h : Fr w w' P) (o : Obj) : Fr w (w'.alloc o) P :=
  h.on (Fr.of_below ((Below.refl w'.heap.size w').alloc (Nat.le_refl _) o) P)
theorem Blk.fr {w w' : World} {g : Nat} {t : TypeId} {cs : Array Value} {P : Nat → Prop} (h : Blk w g t cs) (hf : Fr w w' P) (hP : ¬ P g) : Blk w' g t cs := (hf.block g h.lt hP).trans h
theorem Fr.own {w w' : World} {P : Nat → Prop} {B n size : Nat} {e : TypeId} {v : Value} {xs : List Value} (h : w.ownsRow B e size v n xs) (f : Fr w w' P) (hP : ∀ q, v.ownBlock = some q → ¬ P q) : w'.ownsRow B e size v n xs := by
  refine ⟨h.1, ?_⟩
  rcases h.2 with hn | ⟨g, cap, cur, rfl, hb, hgg, rest⟩
  · exact .inl hn
  · refine .inr ⟨g, cap, cur, rfl, hb, ?_, rest⟩
    rw [f.block g (Array.getElem?_eq_some_iff.1 hgg).1 (hP g rfl)]
    exact hgg

theorem Fr.cell {w w' : World} {P : Nat → Prop} (f : Fr w w' P) {g i : Nat} {u : Value} (hg : g < w.heap.size) (hP : ¬ P g) (h : w.cell? ⟨g, i, none⟩ = some u) : w'.cell? ⟨g, i, none⟩ = some u := by
  rw [← h]
  simp only [World.cell?, f.block g hg hP]
theorem Flds.fr {w w' : World} {a : Option Addr} {L : List Fld} {P : Nat → Prop} (h : Flds w a L) (f : Fr w w' P) (hP : ∀ ad, a = some ad → ¬ P ad.block) : Flds w' a L := fun p hp => by
  obtain ⟨g, o, e, hl, c0, c1, c2, c3, c4⟩ := h p hp
  have hn := hP _ e
  exact ⟨g, o, e, Nat.lt_of_lt_of_le hl f.size, f.cell hl hn c0, f.cell hl hn c1, f.cell hl hn c2, f.cell hl hn c3, f.cell hl hn c4⟩
theorem Fr.undrew {w v : World} {P : Nat → Prop} (h : Fr w.drew v P) : Fr w v P := ⟨h.os, h.tape, h.output, h.size, h.block⟩
/-- what a copy of an event leaves -/
def CopR (w : World) (a b c : Int) (k : ByteArray) (L : List Fld) (e : Ending) (w' : World) : Prop :=
  ∃ p cp, e = .returned (evV a b c k (.slice p L.length cp)) ∧ Flds w' p L ∧ (∀ ad, p = some ad → w.heap.size ≤ ad.block ∧ ad.block < w'.heap.size) ∧ Below w.heap.size w w'
theorem copR_nil (a b c : Int) (k : ByteArray) (hk : k.size ≤ 281474976710656) (w : World) : Calls Try.prog 43 #[evV a b c k (.slice none 0 0)] w (CopR w a b c k []) := by
  refine (copied_nil a b c k hk w).mono ?_
  rintro e w' ⟨rfl, b⟩
  exact ⟨none, 0, rfl, (fun i hi => by simp at hi), (fun ad h => by cases h), b⟩
def encE (a b c : Int) (k : ByteArray) (f : Value) : List Value := [.int .i64 a, .int .i64 b, .int .i64 c, .string k, f]
/-- what Add leaves -/
def AddR (w : World) (t B : Nat) (nodes to id sq : Int) (wv : Value) (n : Nat) (cs : List Value) (rv : Value) (a b c : Int) (k : ByteArray) (L : List Fld) (e : Ending) (w' : World) : Prop :=
  e = .returned (.int .i64 0) ∧ ∃ g cap p cp, Blk w' t 98 (tel nodes to id sq (.slice (some ⟨g, 0, none⟩) (n + 1) cap) rv) ∧ w'.ownsRow B 31 5 (.slice (some ⟨g, 0, none⟩) (n + 1) cap) (n + 1) (cs ++ encE a b c k (.slice p L.length cp)) ∧ Flds w' p L ∧ (∀ ad, p = some ad → w.heap.size ≤ ad.block ∧ ad.block < w'.heap.size ∧ ad.block ≠ g) ∧ Fr w w' (fun q => q = t ∨ wv.ownBlock = some q) ∧ (wv.ownBlock = some g ∨ w.heap.size ≤ g)
/-- the end of Add -/
theorem add_end {w v w4 : World} {t B : Nat} {nodes to id sq : Int} {wv : Value} {n : Nat} {cs : List Value} {rv : Value} {a b c : Int} {k : ByteArray} {L : List Fld} {p : Option Addr} {cp g cap : Nat} (o : Obj)
    (T : Blk w t 98 (tel nodes to id sq wv rv)) (hB : t < B) (hw : ∀ q, wv.ownBlock = some q → B ≤ q ∧ q < w.heap.size) (bv : Below w.heap.size w v) (hF : Flds v p L) (hp : ∀ ad, p = some ad → w.heap.size ≤ ad.block ∧ ad.block < v.heap.size)
    (ho : w4.ownsRow B 31 5 (.slice (some ⟨g, 0, none⟩) (n + 1) cap) (n + 1) (cs ++ encE a b c k (.slice p L.length cp))) (hg : (v.alloc o).grownBy w4 wv.ownBlock) (hat : wv.ownBlock = some g ∨ g = (v.alloc o).heap.size) :
    AddR w t B nodes to id sq wv n cs rv a b c k L (.returned (.int .i64 0)) (w4.setCell ⟨t, 4, none⟩ (.slice (some ⟨g, 0, none⟩) (n + 1) cap)) ∧ w4.frozen? ⟨t, 4, none⟩ = false ∧ w4.cell? ⟨t, 4, none⟩ = some wv := by
  have hlt := T.lt
  have f1 : Fr w (v.alloc o) (fun q => q = t ∨ wv.ownBlock = some q) := (Fr.of_below bv _).al o
  have f2 : Fr (v.alloc o) w4 (fun q => wv.ownBlock = some q) := (Fr.of_grown hg).mono (fun q _ h => h.symm)
  have f3 : Fr w w4 (fun q => wv.ownBlock = some q) := (((Fr.of_below bv _).al o)).on f2
  have T4 : Blk w4 t 98 (tel nodes to id sq wv rv) := T.fr f3 (fun e => by have := (hw _ e).1; omega)
  have hgB : B ≤ g := (World.ownsRow.lt ho g rfl).1
  have hvo : (v.alloc o).heap.size = v.heap.size + 1 := by simp
  have hbvs := bv.size
  refine ⟨⟨rfl, g, cap, p, cp, T4.set 4 _, ?_, ?_, ?_, ?_, hat.imp (fun e => e) (fun e => by omega)⟩, T4.free 4, by rw [T4.cell]; rfl⟩
  · exact ownsRow_setCell_other ho (by simp [Value.ownBlock]; omega) _
  · have fa : Fr v (v.alloc o) (fun q => wv.ownBlock = some q) := (Fr.refl v _).al o
    have F4 : Flds w4 p L := hF.fr (fa.on f2) (fun ad e hh => by have := (hw _ hh).2; have := (hp ad e).1; omega)
    exact F4.fr (fr_set w4 t 4 _) (fun ad e hh => by have := (hp ad e).1; omega)
  · intro ad e
    refine ⟨(hp ad e).1, ?_, by have h0 := hp ad e; rcases hat with e' | e'; (have := (hw g e').2; omega); omega⟩
    have h1 := (hp ad e).2
    have h2 := ((Fr.refl v (fun q => wv.ownBlock = some q)).al o).on f2
    have := h2.size
    have h3 : (w4.setCell ⟨t, 4, none⟩ (.slice (some ⟨g, 0, none⟩) (n + 1) cap)).heap.size = w4.heap.size := by simp
    omega
  · exact (f3.mono (fun q _ h => .inr h)).set t 4 _ (.inl (.inl rfl))
end Go.Proofs.Ytggjpallbapcmaa
/-
  A TELLER's Add.
-/
namespace Go.Proofs.Ytggjpallbapcmaa
open Go.RowKit
theorem info31 : (Try.prog.info? 31).map (fun i => (i.zero, i.size, i.bytes)) = some (some (.agg #[.int .i64 0, .int .i64 0, .int .i64 0, .string ⟨#[]⟩, .slice none 0 0]), 5, 64) := by kernel_rfl
theorem one_encE (a b c : Int) (k : ByteArray) (p : Option Addr) (n cp : Nat) : ∀ u ∈ encE a b c k (.slice p n cp), u.oneCell' = true := by
  intro u hu
  simp only [encE, List.mem_cons, List.not_mem_nil, or_false] at hu
  rcases hu with rfl | rfl | rfl | rfl | rfl <;> rfl
theorem add_nil (e : Value) (a b c : Int) (k : ByteArray) (f : Value) (he : e = evV a b c k f) (w : World) : Calls Try.prog 11 #[.pointer none, e] w fun r w' => r = .returned (.int .i64 1) ∧ Below w.heap.size w w' := by
  subst he
  have FIN := Lib.hid (fun o => (Below.refl w.heap.size w).alloc (Nat.le_refl _) o)
  unfold evV
  go_enter Try.func11, Try.ntmps11
  go_wp2_with fail
  go_ret
  exact ⟨rfl, FIN.out _⟩
theorem hpp_of {w v : World} {Y a : Nat} (hY : Y ≤ w.heap.size) (h : w.heap.size ≤ a ∧ a < v.heap.size) : Y ≤ a ∧ a < v.heap.size := ⟨Nat.le_trans hY h.1, h.2⟩
set_option maxHeartbeats 4000000 in
set_option maxRecDepth 100000 in
theorem add_ok {w : World} {t B : Nat} {nodes to id sq : Int} {ua : Option Addr} {uc n : Nat} {cs : List Value} {rv : Value} {a b c : Int} {k : ByteArray} {L : List Fld} {p : Option Addr} {cp : Nat}
    (T : Blk w t 98 (tel nodes to id sq (.slice ua n uc) rv)) (hB : t < B) (hBw : B ≤ w.heap.size) (ho : w.ownsRow B 31 5 (.slice ua n uc) n cs) (hn : n < 256)
    (CK : ∀ W, Below w.heap.size w W → Calls Try.prog 41 #[evV 1 1 c k (.slice p L.length cp)] W fun e w' => e = .returned (.int .i64 0) ∧ Below W.heap.size W w')
    (CP : ∀ W, Below w.heap.size w W → Calls Try.prog 43 #[evV 0 0 c k (.slice p L.length cp)] W (CopR W 0 0 c k L)) :
    Calls Try.prog 11 #[.pointer (some ⟨t, 0, none⟩), evV a b c k (.slice p L.length cp)] w (AddR w t B nodes to id sq (.slice ua n uc) n cs rv 0 0 c k L) := by
  obtain ⟨i31, hi, hz0, hz1, hz2⟩ := info_parts info31
  obtain ⟨w1, hw1, K1, B1, hs1⟩ : ∃ w1, w1 = w.alloc (.cells #[.int .i64 a, .int .i64 b, .int .i64 c, .string k, .slice p L.length cp] 31) ∧ Blk w1 w.heap.size 31 #[.int .i64 a, .int .i64 b, .int .i64 c, .string k, .slice p L.length cp] ∧ Below w.heap.size w w1 ∧ w1.heap.size = w.heap.size + 1 :=
    ⟨_, rfl, heap_alloc_new w _, (Below.refl w.heap.size w).alloc (Nat.le_refl _) _, by simp⟩
  have hlt := T.lt
  have hw : ∀ q, (Value.slice ua n uc).ownBlock = some q → B ≤ q ∧ q < w.heap.size := fun q hq => World.ownsRow.lt ho q hq
  have NU := Lib.hid (fun W => numbered_any a b c 1 0 k p L.length cp W (by omega))
  have CKh := Lib.hid CK
  have CPh := Lib.hid CP
  have Th := Lib.hid T
  have K1h := Lib.hid K1
  have B1h := Lib.hid B1
  have W1 := Lib.hid hw1
  have END := Lib.hid (fun (v w4 : World) (p' : Option Addr) (cp' g cap : Nat) (o : Obj) (bv : Below w.heap.size w v) (hF : Flds v p' L) (hp : ∀ ad, p' = some ad → w.heap.size ≤ ad.block ∧ ad.block < v.heap.size) (ho' : w4.ownsRow B 31 5 (.slice (some ⟨g, 0, none⟩) (n + 1) cap) (n + 1) (cs ++ encE 0 0 c k (.slice p' L.length cp'))) (hg : (v.alloc o).grownBy w4 (Value.slice ua n uc).ownBlock) (hat : (Value.slice ua n uc).ownBlock = some g ∨ g = (v.alloc o).heap.size) =>
    add_end (w := w) (v := v) (w4 := w4) (cp := cp') (g := g) (cap := cap) (rv := rv) o T hB hw bv hF hp ho' hg hat)
  have OWN := Lib.hid (fun (v : World) (bv : Below w.heap.size w v) => Fr.own ho (Fr.of_below bv (fun _ => False)) (fun _ _ h => h))
  unfold CopR at CPh
  generalize hQ : AddR w t B nodes to id sq (.slice ua n uc) n cs rv 0 0 c k L = Q at *
  clear T K1 B1 hw1 CK CP ho
  unfold evV at *
  have hLn : Hid (L.length = L.length) := Lib.hid rfl
  generalize hLL : L.length = m at *
  have c4 : w1.cell? ⟨t, 4, none⟩ = some (.slice ua n uc) := (Th.out.at_ B1h.out hlt).cell 4
  generalize hy : w.heap.size = Y at *
  go_enter Try.func11, Try.ntmps11
  go_wp2_with fail
  rw [← W1.out]
  have e0 : w1.cell? ⟨Y, 0, none⟩ = some (.int .i64 a) := K1h.out.cell 0
  have e1 : w1.cell? ⟨Y, 1, none⟩ = some (.int .i64 b) := K1h.out.cell 1
  have e2 : w1.cell? ⟨Y, 2, none⟩ = some (.int .i64 c) := K1h.out.cell 2
  have e3 : w1.cell? ⟨Y, 3, none⟩ = some (.string k) := K1h.out.cell 3
  have e4 : w1.cell? ⟨Y, 4, none⟩ = some (.slice p m cp) := K1h.out.cell 4
  go_wp2_with fail
  refine (NU.out _).mono ?_
  rintro e w2 ⟨rfl, b2⟩
  have B2 := Lib.hid (B1h.out.trans (b2.mono (by omega)))
  have K2h := Lib.hid (K1h.out.below b2)
  clear b2 e0 e1 e2 e3 e4 c4
  go_wp2_with fail
  refine (CKh.out _ B2.out).mono ?_
  rintro e w3 ⟨rfl, b3⟩
  have B3 := Lib.hid (B2.out.trans (b3.mono (by have := B2.out.size; omega)))
  have K3h := Lib.hid (K2h.out.below b3)
  have c4 : w3.cell? ⟨t, 4, none⟩ = some (.slice ua n uc) := (Th.out.at_ B3.out hlt).cell 4
  have e0 : w3.cell? ⟨Y, 0, none⟩ = some (.int .i64 a) := K3h.out.cell 0
  have e1 : w3.cell? ⟨Y, 1, none⟩ = some (.int .i64 b) := K3h.out.cell 1
  have e2 : w3.cell? ⟨Y, 2, none⟩ = some (.int .i64 c) := K3h.out.cell 2
  have e3 : w3.cell? ⟨Y, 3, none⟩ = some (.string k) := K3h.out.cell 3
  have e4 : w3.cell? ⟨Y, 4, none⟩ = some (.slice p m cp) := K3h.out.cell 4
  have hn1 : (n : Int) < 256 := by omega
  clear b3 K2h K1h W1 B2 NU CKh
  have fz : ∀ i, w3.frozen? ⟨Y, i, none⟩ = false := K3h.out.free
  go_wp2_with fail
  clear fz
  have hB3 : B ≤ w3.heap.size := by have := B3.out.size; omega
  have hY3 : Y ≤ w3.heap.size := by have := B3.out.size; omega
  have K5 : Blk ((w3.setCell ⟨Y, 0, none⟩ (.int .i64 0)).setCell ⟨Y, 1, none⟩ (.int .i64 0)) Y 31 #[.int .i64 0, .int .i64 0, .int .i64 c, .string k, .slice p m cp] := (K3h.out.set 0 (.int .i64 0)).set 1 (.int .i64 0)
  have B5 := Lib.hid (Below.setCell (p := ⟨Y, 1, none⟩) (Below.setCell (p := ⟨Y, 0, none⟩) B3.out (Nat.le_refl Y) (.int .i64 0)) (Nat.le_refl Y) (.int .i64 0))
  clear e0 e1 e2 e3 e4 c4
  have hs5 : ((w3.setCell ⟨Y, 0, none⟩ (.int .i64 0)).setCell ⟨Y, 1, none⟩ (.int .i64 0)).heap.size = w3.heap.size := by simp
  generalize (w3.setCell ⟨Y, 0, none⟩ (.int .i64 0)).setCell ⟨Y, 1, none⟩ (.int .i64 0) = w5 at *
  have hB5 : B ≤ w5.heap.size := by omega
  have hY5 : Y ≤ w5.heap.size := by omega
  have c4 : w5.cell? ⟨t, 4, none⟩ = some (.slice ua n uc) := (Th.out.at_ B5.out hlt).cell 4
  have e0 : w5.cell? ⟨Y, 0, none⟩ = some (.int .i64 0) := K5.cell 0
  have e1 : w5.cell? ⟨Y, 1, none⟩ = some (.int .i64 0) := K5.cell 1
  have e2 : w5.cell? ⟨Y, 2, none⟩ = some (.int .i64 c) := K5.cell 2
  have e3 : w5.cell? ⟨Y, 3, none⟩ = some (.string k) := K5.cell 3
  have e4 : w5.cell? ⟨Y, 4, none⟩ = some (.slice p m cp) := K5.cell 4
  clear K3h B3 hs5 K5 hB3 hY3
  have BD : Hid (Below Y w w5.drew) := Lib.hid B5.out.drew
  have CALL := Lib.hid (CPh.out w5.drew BD.out)
  clear CPh
  go_region_law
    (first
      | (refine step_append_lies _ rfl (.tmp 26) (.tmp 29) 89 rfl B 31 i31 (.agg #[.int .i64 0, .int .i64 0, .int .i64 0, .string ⟨#[]⟩, .slice none 0 0]) 5 64 Try.underlying89 hi hz0 hz1 hz2 rfl (by decide) (.slice ua n uc) n cs rfl (World.ownsRow.alloc OW2.out _) ⟨v2.heap.size, 0, none⟩ 1 1 (encE 0 0 c k (.slice p2 m cp2)) rfl rfl (World.news_of_block (cs := #[.int .i64 0, .int .i64 0, .int .i64 c, .string k, .slice p2 m cp2]) (heap_alloc_new v2 _)) (one_encE 0 0 c k p2 m cp2) (by decide) (by unfold maxLen; omega) (by omega) (by have := hXv; simp; omega) _ rfl ?_; intro g4 cap4 w4 ho4 hg4 hat4 _; obtain ⟨A4, f4, q4⟩ := END.out v2 w4 p2 cp2 g4 cap4 _ BV.out F2.out hp2.out ho4 hg4 hat4; have A4h := Lib.hid A4; clear A4 ho4 hg4 hat4)
      | (go_simp; go_at_call 43; refine CALL.out.mono ?_; rintro r9 v2 ⟨p2, cp2, rfl, F2, hp2, b2⟩; have BV : Hid (Below Y w v2) := Lib.hid (B5.out.drew.trans (b2.mono hY5)); have OW2 := Lib.hid (OWN.out v2 BV.out); have F2 := Lib.hid F2; have hp2 := Lib.hid (fun ad e => (hpp_of (w := w5.drew) hY5 (hp2 ad e))); have hXv : B ≤ v2.heap.size := Nat.le_trans hB5 b2.size; have c5 : v2.cell? ⟨t, 4, none⟩ = some (.slice ua n uc) := (Th.out.at_ BV.out hlt).cell 4; have hTv : (⟨t, 4, none⟩ : Addr).block < v2.heap.size := (Th.out.at_ BV.out hlt).lt; have c6 : ∀ o, (v2.alloc o).cell? ⟨t, 4, none⟩ = some (.slice ua n uc) := fun o => (World.cell?_alloc_lt _ _ _ hTv).trans c5; clear b2))
  all_goals (go_wp2_with fail; (try go_ret); exact A4h.out)
end Go.Proofs.Ytggjpallbapcmaa
/-
  WHOM A CLIENT ASKS: next, turn; Late; a session is opened.
-/
namespace Go.Proofs.Ytggjpallbapcmaa
open Go.RowKit
/-- the next node is asked -/
def NextR (w : World) (t : Nat) (ty : TypeId) (cs : Array Value) (nodes to : Int) (e : Ending) (w' : World) : Prop :=
  e = .returned (.tuple #[]) ∧ Blk w' t ty (cs.setIfInBounds 1 (.int .i64 (nextN to nodes))) ∧ Fr w w' (fun q => q = t)
theorem next_end0 {w : World} {t : Nat} {ty : TypeId} {cs : Array Value} {nodes to : Int} (T : Blk w t ty cs) (h : nextN to nodes = to + 1) (n : Nat) :
    NextR w t ty cs nodes to (.returned (.tuple #[])) ((w.setCell ⟨t, 1, none⟩ (.int .i64 (to + 1))).drewN n) := by
  refine ⟨rfl, ?_, (fr_set w t 1 _).on ⟨rfl, rfl, rfl, Nat.le_refl _, fun _ _ _ => rfl⟩⟩
  rw [h]
  exact T.set 1 _
theorem next_end1 {w : World} {t : Nat} {ty : TypeId} {cs : Array Value} {nodes to : Int} {x : Value} (T : Blk w t ty cs) (h : nextN to nodes = 0) (n : Nat) :
    NextR w t ty cs nodes to (.returned (.tuple #[])) (((w.setCell ⟨t, 1, none⟩ x).drewN n).setCell ⟨t, 1, none⟩ (.int .i64 0)) := by
  refine ⟨rfl, ?_, ((fr_set w t 1 _).on (w2 := (w.setCell ⟨t, 1, none⟩ x).drewN n) ⟨rfl, rfl, rfl, Nat.le_refl _, fun _ _ _ => rfl⟩).set t 1 _ (.inl rfl)⟩
  have h1 : Blk ((w.setCell ⟨t, 1, none⟩ x).drewN n) t ty (cs.setIfInBounds 1 x) := T.set 1 x
  have h2 := h1.set 1 (.int .i64 0)
  rw [h]
  rw [show (cs.setIfInBounds 1 x).setIfInBounds 1 (.int .i64 0) = cs.setIfInBounds 1 (.int .i64 0) by simp] at h2
  exact h2
set_option maxHeartbeats 1000000 in
theorem next_any {w : World} {t : Nat} {ty : TypeId} {cs : Array Value} {nodes to : Int} (T : Blk w t ty cs) (h0 : cs[0]? = some (.int .i64 nodes)) (h1 : cs[1]? = some (.int .i64 to)) (ht : 0 ≤ to ∧ to ≤ 100) (hn : nodes ≤ 100) :
    Calls Try.prog 49 #[.pointer (some ⟨t, 0, none⟩)] w (NextR w t ty cs nodes to) := by
  have c0 : w.cell? ⟨t, 0, none⟩ = some (.int .i64 nodes) := (T.cell 0).trans h0
  have c1 : w.cell? ⟨t, 1, none⟩ = some (.int .i64 to) := (T.cell 1).trans h1
  have fz : ∀ i, w.frozen? ⟨t, i, none⟩ = false := T.free
  by_cases hb : to + 1 < nodes
  · have FIN := Lib.hid (fun n => next_end0 T (show nextN to nodes = to + 1 by unfold nextN; rw [if_pos hb]) n)
    have hd : decide (nodes ≤ to + 1) = false := by simp; omega
    generalize NextR w t ty cs nodes to = Q at *
    have hw : wrap64 (to + 1) = to + 1 := by unfold wrap64; omega
    clear T h0 h1
    go_enter Try.func49, Try.ntmps49
    go_wp2_with fail
    go_quiet (fail)
    go_wp2_with fail
    all_goals ((try go_end0); exact FIN.out _)
  · have FIN := Lib.hid (fun n x => next_end1 (x := x) T (show nextN to nodes = 0 by unfold nextN; rw [if_neg hb]) n)
    have hd : decide (nodes ≤ to + 1) = true := by simp; omega
    generalize NextR w t ty cs nodes to = Q at *
    have hw : wrap64 (to + 1) = to + 1 := by unfold wrap64; omega
    clear T h0 h1
    go_enter Try.func49, Try.ntmps49
    go_wp2_with fail
    go_quiet (fail)
    go_wp2_with fail
    all_goals ((try go_end0); exact FIN.out _ _)
theorem late_any {w : World} {t : Nat} {nodes to id sq : Int} {wv rv : Value} (T : Blk w t 98 (tel nodes to id sq wv rv)) (ht : 0 ≤ to ∧ to ≤ 100) (hn : nodes ≤ 100) :
    Calls Try.prog 15 #[.pointer (some ⟨t, 0, none⟩)] w fun e w' => e = .returned (.tuple #[]) ∧ Blk w' t 98 (tel nodes (nextN to nodes) id sq wv rv) ∧ Fr w w' (fun q => q = t) := by
  have NX := Lib.hid (next_any T rfl rfl ht hn)
  clear T
  go_enter Try.func15, Try.ntmps15
  go_wp2_with fail
  refine NX.out.mono ?_
  rintro e w1 ⟨rfl, T1, f1⟩
  have T1 := Lib.hid T1
  have f1 := Lib.hid f1
  go_wp2_with fail
  go_end0
  exact ⟨rfl, T1.out, f1.out⟩
theorem late_nil (w : World) : Calls Try.prog 15 #[.pointer none] w fun e w' => e = .returned (.tuple #[]) ∧ w = w' := by
  go_enter Try.func15, Try.ntmps15
  go_wp2_with fail
  go_end0
  exact ⟨rfl, rfl⟩
end Go.Proofs.Ytggjpallbapcmaa
/-
  A TELLER IS TOLD: a session is opened.
-/
namespace Go.Proofs.Ytggjpallbapcmaa
open Go.RowKit
theorem told_nil (e m lead : Int) (w : World) : Calls Try.prog 13 #[.pointer none, .agg #[.int .i64 e, .int .i64 m], .int .i64 lead] w fun r w' => r = .returned (.tuple #[]) ∧ Below w.heap.size w w' := by
  have FIN := Lib.hid (fun o => (Below.refl w.heap.size w).alloc (Nat.le_refl _) o)
  go_enter Try.func13, Try.ntmps13
  go_wp2_with fail
  refine (left_nil _).mono ?_
  rintro e w1 ⟨rfl, rfl⟩
  go_wp2_with fail
  refine bodyPost_ret (results_none rfl _ _ _) rfl ?_
  exact ⟨rfl, FIN.out _⟩
theorem came_opens {w : World} {t : Nat} {nodes to sq m : Int} {wv rv : Value} (T : Blk w t 98 (tel nodes to 0 sq wv rv)) (hm : 1 ≤ m ∧ m ≤ 549755813888) :
    Calls Try.prog 44 #[.pointer (some ⟨t, 0, none⟩), .int .i64 m] w fun e w' => e = .returned (.tuple #[]) ∧ Blk w' t 98 (tel nodes to m 0 wv rv) ∧ Fr w w' (fun q => q = t) := by
  have OP := Lib.hid (open_any T)
  have FIN : Hid (Blk ((w.setCell ⟨t, 2, none⟩ (.int .i64 m)).setCell ⟨t, 3, none⟩ (.int .i64 0)) t 98 (tel nodes to m 0 wv rv) ∧ Fr w ((w.setCell ⟨t, 2, none⟩ (.int .i64 m)).setCell ⟨t, 3, none⟩ (.int .i64 0)) (fun q => q = t)) := Lib.hid ⟨(T.set 2 _).set 3 _, (fr_set w t 2 _).set t 3 _ (.inl rfl)⟩
  have c2 : w.cell? ⟨t, 2, none⟩ = some (.int .i64 0) := T.cell 2
  have c3 : w.cell? ⟨t, 3, none⟩ = some (.int .i64 sq) := T.cell 3
  have fz : ∀ i, w.frozen? ⟨t, i, none⟩ = false := T.free
  obtain ⟨m1, m2⟩ := hm
  clear T
  go_enter Try.func44, Try.ntmps44
  go_wp2_with fail
  refine OP.out.mono ?_
  rintro e w1 ⟨rfl, rfl⟩
  go_wp2_with fail
  go_end0
  exact ⟨rfl, FIN.out⟩
theorem told_opens {w : World} {t : Nat} {nodes to sq m lead : Int} {a : Option Addr} {n c : Nat} {rv : Value} (T : Blk w t 98 (tel nodes to 0 sq (.slice a n c) rv)) (hn : 0 < n) (hm : 1 ≤ m ∧ m ≤ 549755813888) :
    Calls Try.prog 13 #[.pointer (some ⟨t, 0, none⟩), .agg #[.int .i64 0, .int .i64 m], .int .i64 lead] w fun e w' => e = .returned (.tuple #[]) ∧ Blk w' t 98 (tel nodes to m 0 (.slice a n c) rv) ∧ Fr w w' (fun q => q = t) := by
  have B1 := Lib.hid (fun o => (Below.refl w.heap.size w).alloc (Nat.le_refl _) o)
  have LF := Lib.hid (fun o => left_any (T.below (B1.out o)))
  have CM := Lib.hid (fun o => came_opens (T.below (B1.out o)) hm)
  have FW := Lib.hid (fun o => Fr.of_below (B1.out o) (fun q => q = t))
  have hn1 : ((n : Int) == 0) = false := by rw [beq_eq_false_iff_ne]; omega
  clear T B1
  go_enter Try.func13, Try.ntmps13
  go_wp2_with fail
  refine (LF.out _).mono ?_
  rintro e w1 ⟨rfl, rfl⟩
  go_wp2_with fail
  refine (CM.out _).mono ?_
  rintro e w2 ⟨rfl, T2, f2⟩
  have T2 := Lib.hid T2
  have f2 := Lib.hid f2
  go_wp2_with fail
  go_end0
  exact ⟨rfl, T2.out, (FW.out _).on f2.out⟩
end Go.Proofs.Ytggjpallbapcmaa
