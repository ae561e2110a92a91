/-
  WHAT A READER GOT, IN MEMORY.
-/
import Derived.Test.YtbghjcfepjbppaaClb
import Derived.Test.YtbghjcfepjbppaaBrs
namespace Go.Proofs.Ytbghjcfepjbppaa
open Go.RowKit
/-- matches by their numbers, from one on -/
def numb : Int → List (List Int) → List (Int × List Int)
  | _, [] => []
  | a, x :: l => (a, x) :: numb (a + 1) l
theorem numb_len : ∀ (a : Int) (l : List (List Int)), (numb a l).length = l.length
  | _, [] => rfl
  | a, x :: l => by show (numb (a + 1) l).length + 1 = l.length + 1; rw [numb_len]
theorem numb_one : ∀ (a : Int) (l : List (List Int)) (x : List Int), numb a (l ++ [x]) = numb a l ++ [(a + (l.length : Int), x)]
  | a, [], x => by simp [numb]
  | a, y :: l, x => by
    show (a, y) :: numb (a + 1) (l ++ [x]) = (a, y) :: numb (a + 1) l ++ [(a + ((l.length + 1 : Nat) : Int), x)]
    rw [numb_one (a + 1) l x, show a + ((l.length + 1 : Nat) : Int) = a + 1 + (l.length : Int) by omega]
    rfl
theorem numb_take {a : Int} {l : List (List Int)} {j : Nat} (h : j < l.length) : numb a (l.take (j + 1)) = numb a (l.take j) ++ [(a + (j : Int), l[j])] := by
  rw [List.take_succ_eq_append_getElem h, numb_one, List.length_take, Nat.min_eq_left (Nat.le_of_lt h)]
/-- a reader in memory, its blocks U -/
structure RdA (w : World) (U : Nat → Prop) (t : Nat) (nodes to : Int) (nm : ByteArray) (most at_ gone : Int) (LG : List (Int × List Int)) (gv : Value) (cs : List Value) : Prop where
  blk : Blk w t 119 (rdr nodes to nm most at_ gone gv)
  own : w.ownsRow 0 72 2 gv LG.length cs
  gvt : ∀ q, gv.ownBlock = some q → q ≠ t
  gc : ∀ i (h : i < LG.length), ∃ q c, cs[i * 2]? = some (.int .i64 LG[i].1) ∧ cs[i * 2 + 1]? = some (.slice q LG[i].2.length c) ∧ Bk.Nums w q LG[i].2 ∧ ∀ p, q = some p → U p.block ∧ p.block ≠ t ∧ gv.ownBlock ≠ some p.block
  ut : U t
  ug : ∀ q, gv.ownBlock = some q → U q
  ul : ∀ q, U q → q < w.heap.size
def RdM (w : World) (U : Nat → Prop) (t : Nat) (nodes to : Int) (nm : ByteArray) (most at_ gone : Int) (LG : List (Int × List Int)) : Prop := ∃ gv cs, RdA w U t nodes to nm most at_ gone LG gv cs
section
variable {w w' : World} {U : Nat → Prop} {t : Nat} {nodes to : Int} {nm : ByteArray} {most at_ gone : Int} {LG : List (Int × List Int)} {gv : Value} {cs : List Value}
theorem RdA.fr {P : Nat → Prop} (h : RdA w U t nodes to nm most at_ gone LG gv cs) (f : Fr w w' P) (hP : ∀ q, P q → ¬ U q) : RdA w' U t nodes to nm most at_ gone LG gv cs where
  blk := h.blk.fr f (fun e => hP _ e h.ut)
  own := Fr.own h.own f (fun q hq e => hP _ e (h.ug q hq))
  gvt := h.gvt
  gc := fun i hi => by
    obtain ⟨q, c, e0, e1, nn, hb⟩ := h.gc i hi
    exact ⟨q, c, e0, e1, nums_fr nn f (fun ad e hh => hP _ hh (hb ad e).1), hb⟩
  ut := h.ut
  ug := h.ug
  ul := fun q hq => Nat.lt_of_lt_of_le (h.ul q hq) f.size
theorem RdM.fr {P : Nat → Prop} (h : RdM w U t nodes to nm most at_ gone LG) (f : Fr w w' P) (hP : ∀ q, P q → ¬ U q) : RdM w' U t nodes to nm most at_ gone LG := by
  obtain ⟨gv, cs, h⟩ := h
  exact ⟨gv, cs, h.fr f hP⟩
theorem RdM.next (h : RdM w U t nodes to nm most at_ gone LG) (b : Below w.heap.size w w') : RdM w' U t nodes to nm most at_ gone LG := by
  exact h.fr (P := fun _ => False) (Fr.of_below b _) (fun _ hf => hf.elim)
/-- the reader's own block is changed -/
theorem RdA.put {to' at' gone' : Int} (h : RdA w U t nodes to nm most at_ gone LG gv cs) (T : Blk w' t 119 (rdr nodes to' nm most at' gone' gv)) (f : Fr w w' (fun q => q = t)) : RdA w' U t nodes to' nm most at' gone' LG gv cs where
  blk := T
  own := Fr.own h.own f (fun q hq e => h.gvt q hq e)
  gvt := h.gvt
  gc := fun i hi => by
    obtain ⟨q, c, e0, e1, nn, hb⟩ := h.gc i hi
    exact ⟨q, c, e0, e1, nums_fr nn f (fun ad e hh => (hb ad e).2.1 hh), hb⟩
  ut := h.ut
  ug := h.ug
  ul := fun q hq => Nat.lt_of_lt_of_le (h.ul q hq) f.size
/-- what a call that changes the reader leaves -/
def Rch (w : World) (U : Nat → Prop) (t : Nat) (nodes to : Int) (nm : ByteArray) (most at_ gone : Int) (LG : List (Int × List Int)) (w' : World) : Prop :=
  ∃ U', RdM w' U' t nodes to nm most at_ gone LG ∧ Fr w w' U ∧ (∀ q, U' q → U q ∨ w.heap.size ≤ q)
theorem Rch.trans {w1 w2 : World} {to1 at1 gone1 : Int} {LG1 LG2 : List (Int × List Int)} {to2 at2 gone2 : Int} (h : Rch w U t nodes to1 nm most at1 gone1 LG1 w1)
    (k : ∀ U1, RdM w1 U1 t nodes to1 nm most at1 gone1 LG1 → Rch w1 U1 t nodes to2 nm most at2 gone2 LG2 w2) : Rch w U t nodes to2 nm most at2 gone2 LG2 w2 := by
  obtain ⟨U1, h1, f1, u1⟩ := h
  obtain ⟨U2, h2, f2, u2⟩ := k U1 h1
  refine ⟨U2, h2, f1.trans f2 (fun _ _ h => h) (fun q hq hh => ?_), fun q hq => ?_⟩
  · rcases u1 q hh with h | h
    · exact h
    · omega
  · rcases u2 q hq with h | h
    · exact u1 q h
    · exact .inr (Nat.le_trans f1.size h)
/-- one match more -/
theorem RdA.push {v w4 : World} {a' : Option Addr} {c' g cap : Nat} {xs : List Int} {u : Value} (o : Obj) (h : RdA w U t nodes to nm most at_ gone LG gv cs) (bv : Below w.heap.size w v)
    (hn : Bk.Nums v a' xs) (ha : ∀ ad, a' = some ad → w.heap.size ≤ ad.block ∧ ad.block < v.heap.size)
    (ho : w4.ownsRow 0 72 2 (.slice (some ⟨g, 0, none⟩) (LG.length + 1) cap) (LG.length + 1) (cs ++ [.int .i64 at_, .slice a' xs.length c'])) (hg : (v.alloc o).grownBy w4 gv.ownBlock) (hat : gv.ownBlock = some g ∨ g = (v.alloc o).heap.size) (hu : u = .slice (some ⟨g, 0, none⟩) (LG.length + 1) cap) :
    w4.frozen? ⟨t, 6, none⟩ = false ∧ w4.cell? ⟨t, 6, none⟩ = some gv ∧ (w4.setCell ⟨t, 6, none⟩ u).cell? ⟨t, 4, none⟩ = some (.int .i64 at_) ∧ (w4.setCell ⟨t, 6, none⟩ u).frozen? ⟨t, 4, none⟩ = false ∧
      ∀ at', Rch w U t nodes to nm most at' gone (LG ++ [(at_, xs)]) ((w4.setCell ⟨t, 6, none⟩ u).setCell ⟨t, 4, none⟩ (.int .i64 at')) := by
  subst hu
  have ht := h.ul t h.ut
  have hgl : ∀ q, gv.ownBlock = some q → q < w.heap.size := fun q hq => h.ul q (h.ug q hq)
  have hs1 : (v.alloc o).heap.size = v.heap.size + 1 := by simp
  have hvs := bv.size
  have f0 : Fr w (v.alloc o) (fun q => gv.ownBlock = some q) := (Fr.of_below bv _).al o
  have f1 : Fr (v.alloc o) w4 (fun q => gv.ownBlock = some q) := (Fr.of_grown hg).mono (fun q _ h => h.symm)
  have f2 : Fr w w4 (fun q => gv.ownBlock = some q) := f0.on f1
  have T4 : Blk w4 t 119 (rdr nodes to nm most at_ gone gv) := h.blk.fr f2 (fun e => h.gvt _ e rfl)
  have T5 : Blk (w4.setCell ⟨t, 6, none⟩ (.slice (some ⟨g, 0, none⟩) (LG.length + 1) cap)) t 119 (rdr nodes to nm most at_ gone (.slice (some ⟨g, 0, none⟩) (LG.length + 1) cap)) := T4.set 6 _
  refine ⟨T4.free 6, by rw [T4.cell]; rfl, T5.cell 4, T5.free 4, fun at' => ?_⟩
  have gt : g ≠ t := by
    rcases hat with e | e
    · exact h.gvt g e
    · omega
  have fin : Fr w4 ((w4.setCell ⟨t, 6, none⟩ (.slice (some ⟨g, 0, none⟩) (LG.length + 1) cap)).setCell ⟨t, 4, none⟩ (.int .i64 at')) (fun q => q = t) := (fr_set w4 t 6 _).set t 4 _ (.inl rfl)
  have hgw : g < w4.heap.size := (World.ownsRow.lt ho g rfl).2
  have av : ∀ ad, a' = some ad → ad.block ≠ t ∧ ad.block ≠ g ∧ ad.block < w4.heap.size := fun ad e => by
    have h1 := ha ad e
    have h2 := f1.size
    refine ⟨by omega, ?_, by omega⟩
    rcases hat with e' | e'
    · have := hgl g e'; omega
    · omega
  refine ⟨fun q => U q ∨ q = g ∨ ∃ ad, a' = some ad ∧ q = ad.block, ⟨.slice (some ⟨g, 0, none⟩) (LG.length + 1) cap, cs ++ [.int .i64 at_, .slice a' xs.length c'], ?_⟩, ?_, ?_⟩
  · refine { blk := T5.set 4 _, own := ?_, gvt := ?_, gc := ?_, ut := .inl h.ut, ug := ?_, ul := ?_ }
    · exact Fr.own (by rw [List.length_append]; exact ho) fin (fun q hq => by
        have : g = q := by simpa [Value.ownBlock] using hq
        omega)
    · intro q hq
      have : g = q := by simpa [Value.ownBlock] using hq
      omega
    · intro i hi
      rw [List.length_append] at hi
      simp only [List.length_cons, List.length_nil] at hi
      have hcl : cs.length = LG.length * 2 := h.own.1
      rcases Nat.lt_or_ge i LG.length with h1 | h1
      · obtain ⟨q, c, e0, e1, nn, hb⟩ := h.gc i h1
        rw [List.getElem_append_left h1, List.getElem?_append_left (by omega), List.getElem?_append_left (by omega)]
        refine ⟨q, c, e0, e1, nums_fr (nums_fr nn f2 (fun ad e hh => (hb ad e).2.2 hh)) fin (fun ad e hh => (hb ad e).2.1 hh), fun p hp => ⟨.inl (hb p hp).1, (hb p hp).2.1, ?_⟩⟩
        intro hh
        have hpg : g = p.block := by simpa [Value.ownBlock] using hh
        rcases hat with e' | e'
        · exact (hb p hp).2.2 (by rw [e', hpg])
        · have := h.ul _ (hb p hp).1; omega
      · obtain rfl : i = LG.length := by omega
        rw [List.getElem_append_right (Nat.le_refl _), List.getElem?_append_right (by omega), List.getElem?_append_right (by omega)]
        simp only [Nat.sub_self, List.getElem_cons_zero]
        rw [show LG.length * 2 - cs.length = 0 by omega, show LG.length * 2 + 1 - cs.length = 1 by omega]
        refine ⟨a', c', rfl, rfl, nums_fr (nums_fr (nums_fr hn ((Fr.refl v (fun q => gv.ownBlock = some q)).al o) (fun ad e hh => by have := hgl _ hh; have := ha ad e; omega)) f1 (fun ad e hh => by have := hgl _ hh; have := ha ad e; omega)) fin (fun ad e hh => (av ad e).1 hh), fun p hp => ⟨.inr (.inr ⟨p, hp, rfl⟩), (av p hp).1, ?_⟩⟩
        intro hh
        have hpg : g = p.block := by simpa [Value.ownBlock] using hh
        exact (av p hp).2.1 hpg.symm
    · intro q hq
      have : g = q := by simpa [Value.ownBlock] using hq
      exact .inr (.inl this.symm)
    · intro q hq
      have h5 : ((w4.setCell ⟨t, 6, none⟩ (.slice (some ⟨g, 0, none⟩) (LG.length + 1) cap)).setCell ⟨t, 4, none⟩ (.int .i64 at')).heap.size = w4.heap.size := by simp
      have h6 := f2.size
      rw [h5]
      rcases hq with hq | rfl | ⟨ad, e, rfl⟩
      · have := h.ul q hq; omega
      · exact hgw
      · exact (av ad e).2.2
  · exact (f2.mono (fun q _ hq => h.ug q hq)).on (fin.mono (fun q _ e => by subst e; exact h.ut))
  · intro q hq
    rcases hq with hq | rfl | ⟨ad, e, rfl⟩
    · exact .inl hq
    · rcases hat with e' | e'
      · exact .inl (h.ug _ e')
      · right; omega
    · exact .inr (ha ad e).1
end
end Go.Proofs.Ytbghjcfepjbppaa
