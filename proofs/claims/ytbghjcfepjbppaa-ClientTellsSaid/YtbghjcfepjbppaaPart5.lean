/-
  WHAT THE ROWS REST ON, part 5: Clb Brs Rdm Rtk Rgt Evq Rfd Rtl Rdc Put Dle.
-/
import Derived.Deep.LoopGhost
import Derived.LoopTactic
import Derived.Lib.Overlaps
import Derived.Lib.AppendZerosOnto
import Derived.Laws.Externs
import Derived.Shelf.RegionOpenPlain
import Derived.Test.YtbghjcfepjbppaaPart4
/-
  slices.Clone of numbers, however many may be; a match and its number: client.got.
-/
namespace Go.Proofs.Ytbghjcfepjbppaa.Bk
open Go.RowKit
set_option maxHeartbeats 4000000 in
set_option maxRecDepth 100000 in
theorem clone_big {w : World} {a : Option Addr} {L : List Int} (c : Nat) (h : Nums w a L) (hl : L.length ≤ 17592186043904) : Calls Try.prog 79 #[.slice a L.length c] w (Cln w L) := by
  obtain ⟨i0, hi, hz0, hz1, hz2⟩ : ∃ i, Try.prog.info? 3 = some i ∧ i.zero = some (.int .i64 0) ∧ i.size = 1 ∧ i.bytes = 8 := by
    have h3 := info3
    cases e : Try.prog.info? 3 with
    | none => rw [e] at h3; cases h3
    | some i => rw [e] at h3; simp only [Option.map_some, Option.some.injEq, Prod.mk.injEq] at h3; exact ⟨i, rfl, h3.1, h3.2.1, h3.2.2⟩
  have q29 : ∀ (w : World) (a : Option Addr) (n c n' c' : Nat), (binOp .eql 55 (.slice a n c) (.slice none n' c')).run Try.prog w = .ok (.bool a.isNone) w := fun w a n c n' c' => Lib.run_eql_slice_nil w _ _ a n c n' c' Try.underlying55
  cases a with
  | none =>
    have hL : L = [] := by
      cases L with
      | nil => rfl
      | cons x r => obtain ⟨g, o, e, _⟩ := h 0 (by simp); cases e
    subst hL
    have FIN := Lib.hid (show Cln w [] (.returned (.slice none 0 0)) w from ⟨_, rfl, World.ownsRow_nil _ _ _ _, Below.refl _ _⟩)
    generalize Cln w [] = Q at *
    clear h
    go_enter Try.func79, Try.ntmps79
    go_wp2_with fail
    exact FIN.out
  | some ad =>
    obtain ⟨W1, hW1⟩ : ∃ W1, W1 = w.alloc (.cells #[] 3) := ⟨_, rfl⟩
    have O1 : W1.ownsRow w.heap.size 3 1 (.slice (some ⟨w.heap.size, 0, none⟩) 0 0) 0 [] := by rw [hW1]; exact World.ownsRow_made w #[] 0 (Nat.le_refl _) (Nat.zero_le _) rfl
    have b1 : Below w.heap.size w W1 := by rw [hW1]; exact (Below.refl _ w).alloc (Nat.le_refl _) _
    have G1 := h.next b1
    have N1 : ∀ j u, (L.map (Value.int .i64))[j]? = some u → W1.cell? (ad.add j) = some u := by
      intro j u hj
      rw [List.getElem?_map] at hj
      obtain ⟨x, hx, rfl⟩ := Option.map_eq_some_iff.1 hj
      obtain ⟨hjl, rfl⟩ := List.getElem?_eq_some_iff.1 hx
      obtain ⟨g, o, e, hg, ck⟩ := G1 j hjl
      cases e
      rw [show (⟨g, o, none⟩ : Addr).add j = ⟨g, o + j, none⟩ by unfold Addr.add; split <;> simp_all]
      exact ck
    have FIN : Hid (∀ v' w1, w1.ownsRow w.heap.size 3 1 v' (0 + L.length) ([] ++ L.map (Value.int .i64)) → W1.grownBy w1 (Value.slice (some ⟨w.heap.size, 0, none⟩) 0 0).ownBlock → Cln w L (.returned v') w1) := Lib.hid fun v' w1 ho hg => by
      rw [Nat.zero_add, List.nil_append] at ho
      exact ⟨v', rfl, ho, b1.trans ⟨hg.os, hg.tape, hg.output, hg.size, fun q hq => hg.block q (Nat.lt_of_lt_of_le hq b1.size) (fun e => absurd (show q = w.heap.size by simpa [Value.ownBlock] using e) (Nat.ne_of_lt hq))⟩⟩
    have hz : W1.heap.size = w.heap.size + 1 := by rw [hW1]; simp
    have HN := Lib.hid N1
    have HO := Lib.hid O1
    have HW := Lib.hid hW1
    have HL : Hid ((L.map (Value.int .i64)).length = L.length * 1) := Lib.hid (by simp)
    have H1 : Hid (∀ u ∈ L.map (Value.int .i64), u.oneCell' = true) := Lib.hid (fun u hu => by obtain ⟨x, _, rfl⟩ := List.mem_map.1 hu; rfl)
    have hl2 : (L.length : Int) ≤ 17592186043904 := by omega
    clear h O1 b1 G1 N1 hW1
    generalize L.map (Value.int .i64) = cl at *
    generalize L.length = n at *
    generalize Cln w L = Q at *
    go_enter Try.func79, Try.ntmps79
    go_wp2_with (at_builtin; rw [← HW.out]; refine wpList_append_own _ rfl _ _ 55 rfl w.heap.size 3 i0 _ 1 8 Try.underlying55 hi hz0 hz1 hz2 rfl (by decide) _ 0 [] rfl HO.out ad n c cl rfl HL.out HN.out H1.out (by unfold maxLen; omega) (by omega) (by omega) ?_; intro v' w1 ho hg2 _)
    all_goals exact FIN.out v' w1 ho hg2
end Go.Proofs.Ytbghjcfepjbppaa.Bk
namespace Go.Proofs.Ytbghjcfepjbppaa
open Go.RowKit
/-- what client.got answers -/
def GotR (w : World) (n : Int) (xs : List Int) (e : Ending) (w' : World) : Prop :=
  ∃ a' c', e = .returned (.agg #[.int .i64 n, .slice a' xs.length c']) ∧ Bk.Nums w' a' xs ∧ (∀ ad, a' = some ad → w.heap.size ≤ ad.block ∧ ad.block < w'.heap.size) ∧ Below w.heap.size w w'
theorem nums_fr {w w' : World} {a : Option Addr} {xs : List Int} {P : Nat → Prop} (h : Bk.Nums w a xs) (f : Fr w w' P) (hP : ∀ ad, a = some ad → ¬ P ad.block) : Bk.Nums w' a xs := fun i hi => by
  obtain ⟨g, o, e, hl, c⟩ := h i hi
  exact ⟨g, o, e, Nat.lt_of_lt_of_le hl f.size, f.cell hl (hP _ e) c⟩
set_option maxHeartbeats 2000000 in
set_option maxRecDepth 100000 in
theorem got_any {w : World} {a : Option Addr} {xs : List Int} (n : Int) (c : Nat) (h : Bk.Nums w a xs) (hl : xs.length ≤ 17592186043904) : Calls Try.prog 56 #[.int .i64 n, .agg #[.slice a xs.length c]] w (GotR w n xs) := by
  obtain ⟨w1, hw1, K1, Z1, B1, hs1⟩ : ∃ w1, w1 = (w.alloc (.cells #[.slice a xs.length c] 70)).alloc (.cells #[.int .i64 0, .slice none 0 0] 72) ∧ Blk w1 w.heap.size 70 #[.slice a xs.length c] ∧ Blk w1 (w.heap.size + 1) 72 #[.int .i64 0, .slice none 0 0] ∧ Below w.heap.size w w1 ∧ w1.heap.size = w.heap.size + 1 + 1 :=
    ⟨_, rfl, (Blk.new w 70 _).below ((Below.refl _ _).alloc (Nat.le_refl _) _), by have := Blk.new (w.alloc (.cells #[.slice a xs.length c] 70)) 72 #[.int .i64 0, .slice none 0 0]; simpa using this, ((Below.refl w.heap.size w).alloc (Nat.le_refl _) _).alloc (by simp) _, by simp⟩
  have W1 := Lib.hid hw1
  have CL := Lib.hid (Bk.clone_big c (h.next B1) hl)
  have END : Hid (∀ (w2 : World) (v' : Value), Bk.OwnN w2 w1.heap.size v' xs → Below w1.heap.size w1 w2 → ∃ a' c', v' = .slice a' xs.length c' ∧ w2.cell? ⟨w.heap.size + 1, 0, none⟩ = some (.int .i64 0) ∧ w2.cell? ⟨w.heap.size + 1, 1, none⟩ = some (.slice none 0 0) ∧ (∀ i, w2.frozen? ⟨w.heap.size + 1, i, none⟩ = false) ∧
      GotR w n xs (.returned (.agg #[.int .i64 n, .slice a' xs.length c'])) ((w2.setCell ⟨w.heap.size + 1, 0, none⟩ (.int .i64 n)).setCell ⟨w.heap.size + 1, 1, none⟩ (.slice a' xs.length c'))) := Lib.hid (by
    intro w2 v' o b2
    obtain ⟨a', c', rfl, hn⟩ := Bk.OwnN.nums o
    have Z2 := Z1.below b2
    have hb : ∀ ad, a' = some ad → w1.heap.size ≤ ad.block ∧ ad.block < w2.heap.size := fun ad e => by
      subst e
      exact World.ownsRow.lt o ad.block rfl
    refine ⟨a', c', rfl, Z2.cell 0, Z2.cell 1, Z2.free, a', c', rfl, ?_, ?_, ?_⟩
    · refine nums_fr (nums_fr hn (fr_set w2 (w.heap.size + 1) 0 _) ?_) (fr_set _ (w.heap.size + 1) 1 _) ?_ <;> (intro ad e hh; have := hb ad e; omega)
    · intro ad e
      have := hb ad e
      have h3 : ((w2.setCell ⟨w.heap.size + 1, 0, none⟩ (.int .i64 n)).setCell ⟨w.heap.size + 1, 1, none⟩ (.slice a' xs.length c')).heap.size = w2.heap.size := by simp
      omega
    · exact ((B1.trans (b2.mono (by omega))).setCell (p := ⟨w.heap.size + 1, 0, none⟩) (Nat.le_succ _) _).setCell (p := ⟨w.heap.size + 1, 1, none⟩) (Nat.le_succ _) _)
  have k0 : w1.cell? ⟨w.heap.size, 0, none⟩ = some (.slice a xs.length c) := K1.cell 0
  generalize GotR w n xs = Q at *
  clear K1 Z1 B1 hw1 h hl
  unfold Bk.Cln at CL
  have HL := Lib.hid (rfl : xs.length = xs.length)
  generalize hy : w.heap.size = Y at *
  go_enter Try.func56, Try.ntmps56
  go_wp2_with fail
  rw [← W1.out]
  refine CL.out.mono ?_
  rintro e w2 ⟨v', rfl, o2, b2⟩
  obtain ⟨a', c', rfl, z0, z1, fz, q2⟩ := END.out w2 v' o2 b2
  have q2 := Lib.hid q2
  clear o2 b2 CL END W1 k0
  go_wp2_with fail
  refine bodyPost_ret (by simp [results, Try.results56, go_sem, z0, z1]; try rfl) rfl ?_
  exact q2.out
end Go.Proofs.Ytbghjcfepjbppaa
/-
  Rows of numbers that can be read.
-/
namespace Go.Proofs.Ytbghjcfepjbppaa.Bk
open Go.RowKit
/-- rows of numbers that can be read -/
def Rws (w : World) (a : Option Addr) (LL : List (List Int)) : Prop := ∀ i (h : i < LL.length), ∃ g o q c, a = some ⟨g, o, none⟩ ∧ g < w.heap.size ∧ w.cell? ⟨g, o + i, none⟩ = some (.slice q LL[i].length c) ∧ Nums w q LL[i]
theorem Rws.next {w w' : World} {a : Option Addr} {LL : List (List Int)} (h : Rws w a LL) (hb : Below w.heap.size w w') : Rws w' a LL := fun i hi => by
  obtain ⟨g, o, q, c, e, hg, ck, nn⟩ := h i hi
  exact ⟨g, o, q, c, e, Nat.lt_of_lt_of_le hg hb.size, (hb.cell (p := ⟨g, _, none⟩) hg).trans ck, nn.next hb⟩
end Go.Proofs.Ytbghjcfepjbppaa.Bk
/-
  WHAT A READER GOT, IN MEMORY.
-/
namespace Go.Proofs.Ytbghjcfepjbppaa
open Go.RowKit
/-- matches by their numbers, from one on -/
def numb : Int → List (List Int) → List (Int × List Int)
  | _, [] => []
  | a, x :: l => (a, x) :: numb (a + 1) l
theorem numb_len : ∀ (a : Int) (l : List (List Int)), (numb a l).length = l.length
  | _, [] => rfl
  | a, x :: l => by show (numb (a + 1) l).length + 1 = l.length + 1; rw [numb_len]
theorem numb_one : ∀ (a : Int) (l : List (List Int)) (x : List Int), numb a (l ++ [x]) = numb a l ++ [(a + (l.length : Int), x)]
  | a, [], x => by simp [numb]
  | a, y :: l, x => by
    show (a, y) :: numb (a + 1) (l ++ [x]) = (a, y) :: numb (a + 1) l ++ [(a + ((l.length + 1 : Nat) : Int), x)]
    rw [numb_one (a + 1) l x, show a + ((l.length + 1 : Nat) : Int) = a + 1 + (l.length : Int) by omega]
    rfl
theorem numb_take {a : Int} {l : List (List Int)} {j : Nat} (h : j < l.length) : numb a (l.take (j + 1)) = numb a (l.take j) ++ [(a + (j : Int), l[j])] := by
  rw [List.take_succ_eq_append_getElem h, numb_one, List.length_take, Nat.min_eq_left (Nat.le_of_lt h)]
/-- a reader in memory, its blocks U -/
structure RdA (w : World) (U : Nat → Prop) (t : Nat) (nodes to : Int) (nm : ByteArray) (most at_ gone : Int) (LG : List (Int × List Int)) (gv : Value) (cs : List Value) : Prop where
  blk : Blk w t 119 (rdr nodes to nm most at_ gone gv)
  own : w.ownsRow 0 72 2 gv LG.length cs
  gvt : ∀ q, gv.ownBlock = some q → q ≠ t
  gc : ∀ i (h : i < LG.length), ∃ q c, cs[i * 2]? = some (.int .i64 LG[i].1) ∧ cs[i * 2 + 1]? = some (.slice q LG[i].2.length c) ∧ Bk.Nums w q LG[i].2 ∧ ∀ p, q = some p → U p.block ∧ p.block ≠ t ∧ gv.ownBlock ≠ some p.block
  ut : U t
  ug : ∀ q, gv.ownBlock = some q → U q
  ul : ∀ q, U q → q < w.heap.size
def RdM (w : World) (U : Nat → Prop) (t : Nat) (nodes to : Int) (nm : ByteArray) (most at_ gone : Int) (LG : List (Int × List Int)) : Prop := ∃ gv cs, RdA w U t nodes to nm most at_ gone LG gv cs
section
variable {w w' : World} {U : Nat → Prop} {t : Nat} {nodes to : Int} {nm : ByteArray} {most at_ gone : Int} {LG : List (Int × List Int)} {gv : Value} {cs : List Value}
theorem RdA.fr {P : Nat → Prop} (h : RdA w U t nodes to nm most at_ gone LG gv cs) (f : Fr w w' P) (hP : ∀ q, P q → ¬ U q) : RdA w' U t nodes to nm most at_ gone LG gv cs where
  blk := h.blk.fr f (fun e => hP _ e h.ut)
  own := Fr.own h.own f (fun q hq e => hP _ e (h.ug q hq))
  gvt := h.gvt
  gc := fun i hi => by
    obtain ⟨q, c, e0, e1, nn, hb⟩ := h.gc i hi
    exact ⟨q, c, e0, e1, nums_fr nn f (fun ad e hh => hP _ hh (hb ad e).1), hb⟩
  ut := h.ut
  ug := h.ug
  ul := fun q hq => Nat.lt_of_lt_of_le (h.ul q hq) f.size
theorem RdM.fr {P : Nat → Prop} (h : RdM w U t nodes to nm most at_ gone LG) (f : Fr w w' P) (hP : ∀ q, P q → ¬ U q) : RdM w' U t nodes to nm most at_ gone LG := by
  obtain ⟨gv, cs, h⟩ := h
  exact ⟨gv, cs, h.fr f hP⟩
theorem RdM.next (h : RdM w U t nodes to nm most at_ gone LG) (b : Below w.heap.size w w') : RdM w' U t nodes to nm most at_ gone LG := by
  exact h.fr (P := fun _ => False) (Fr.of_below b _) (fun _ hf => hf.elim)
/-- the reader's own block is changed -/
theorem RdA.put {to' at' gone' : Int} (h : RdA w U t nodes to nm most at_ gone LG gv cs) (T : Blk w' t 119 (rdr nodes to' nm most at' gone' gv)) (f : Fr w w' (fun q => q = t)) : RdA w' U t nodes to' nm most at' gone' LG gv cs where
  blk := T
  own := Fr.own h.own f (fun q hq e => h.gvt q hq e)
  gvt := h.gvt
  gc := fun i hi => by
    obtain ⟨q, c, e0, e1, nn, hb⟩ := h.gc i hi
    exact ⟨q, c, e0, e1, nums_fr nn f (fun ad e hh => (hb ad e).2.1 hh), hb⟩
  ut := h.ut
  ug := h.ug
  ul := fun q hq => Nat.lt_of_lt_of_le (h.ul q hq) f.size
/-- what a call that changes the reader leaves -/
def Rch (w : World) (U : Nat → Prop) (t : Nat) (nodes to : Int) (nm : ByteArray) (most at_ gone : Int) (LG : List (Int × List Int)) (w' : World) : Prop :=
  ∃ U', RdM w' U' t nodes to nm most at_ gone LG ∧ Fr w w' U ∧ (∀ q, U' q → U q ∨ w.heap.size ≤ q)
theorem Rch.trans {w1 w2 : World} {to1 at1 gone1 : Int} {LG1 LG2 : List (Int × List Int)} {to2 at2 gone2 : Int} (h : Rch w U t nodes to1 nm most at1 gone1 LG1 w1)
    (k : ∀ U1, RdM w1 U1 t nodes to1 nm most at1 gone1 LG1 → Rch w1 U1 t nodes to2 nm most at2 gone2 LG2 w2) : Rch w U t nodes to2 nm most at2 gone2 LG2 w2 := by
  obtain ⟨U1, h1, f1, u1⟩ := h
  obtain ⟨U2, h2, f2, u2⟩ := k U1 h1
  refine ⟨U2, h2, f1.trans f2 (fun _ _ h => h) (fun q hq hh => ?_), fun q hq => ?_⟩
  · rcases u1 q hh with h | h
    · exact h
    · omega
  · rcases u2 q hq with h | h
    · exact u1 q h
    · exact .inr (Nat.le_trans f1.size h)
/-- one match more -/
theorem RdA.push {v w4 : World} {a' : Option Addr} {c' g cap : Nat} {xs : List Int} {u : Value} (o : Obj) (h : RdA w U t nodes to nm most at_ gone LG gv cs) (bv : Below w.heap.size w v)
    (hn : Bk.Nums v a' xs) (ha : ∀ ad, a' = some ad → w.heap.size ≤ ad.block ∧ ad.block < v.heap.size)
    (ho : w4.ownsRow 0 72 2 (.slice (some ⟨g, 0, none⟩) (LG.length + 1) cap) (LG.length + 1) (cs ++ [.int .i64 at_, .slice a' xs.length c'])) (hg : (v.alloc o).grownBy w4 gv.ownBlock) (hat : gv.ownBlock = some g ∨ g = (v.alloc o).heap.size) (hu : u = .slice (some ⟨g, 0, none⟩) (LG.length + 1) cap) :
    w4.frozen? ⟨t, 6, none⟩ = false ∧ w4.cell? ⟨t, 6, none⟩ = some gv ∧ (w4.setCell ⟨t, 6, none⟩ u).cell? ⟨t, 4, none⟩ = some (.int .i64 at_) ∧ (w4.setCell ⟨t, 6, none⟩ u).frozen? ⟨t, 4, none⟩ = false ∧
      ∀ at', Rch w U t nodes to nm most at' gone (LG ++ [(at_, xs)]) ((w4.setCell ⟨t, 6, none⟩ u).setCell ⟨t, 4, none⟩ (.int .i64 at')) := by
  subst hu
  have ht := h.ul t h.ut
  have hgl : ∀ q, gv.ownBlock = some q → q < w.heap.size := fun q hq => h.ul q (h.ug q hq)
  have hs1 : (v.alloc o).heap.size = v.heap.size + 1 := by simp
  have hvs := bv.size
  have f0 : Fr w (v.alloc o) (fun q => gv.ownBlock = some q) := (Fr.of_below bv _).al o
  have f1 : Fr (v.alloc o) w4 (fun q => gv.ownBlock = some q) := (Fr.of_grown hg).mono (fun q _ h => h.symm)
  have f2 : Fr w w4 (fun q => gv.ownBlock = some q) := f0.on f1
  have T4 : Blk w4 t 119 (rdr nodes to nm most at_ gone gv) := h.blk.fr f2 (fun e => h.gvt _ e rfl)
  have T5 : Blk (w4.setCell ⟨t, 6, none⟩ (.slice (some ⟨g, 0, none⟩) (LG.length + 1) cap)) t 119 (rdr nodes to nm most at_ gone (.slice (some ⟨g, 0, none⟩) (LG.length + 1) cap)) := T4.set 6 _
  refine ⟨T4.free 6, by rw [T4.cell]; rfl, T5.cell 4, T5.free 4, fun at' => ?_⟩
  have gt : g ≠ t := by
    rcases hat with e | e
    · exact h.gvt g e
    · omega
  have fin : Fr w4 ((w4.setCell ⟨t, 6, none⟩ (.slice (some ⟨g, 0, none⟩) (LG.length + 1) cap)).setCell ⟨t, 4, none⟩ (.int .i64 at')) (fun q => q = t) := (fr_set w4 t 6 _).set t 4 _ (.inl rfl)
  have hgw : g < w4.heap.size := (World.ownsRow.lt ho g rfl).2
  have av : ∀ ad, a' = some ad → ad.block ≠ t ∧ ad.block ≠ g ∧ ad.block < w4.heap.size := fun ad e => by
    have h1 := ha ad e
    have h2 := f1.size
    refine ⟨by omega, ?_, by omega⟩
    rcases hat with e' | e'
    · have := hgl g e'; omega
    · omega
  refine ⟨fun q => U q ∨ q = g ∨ ∃ ad, a' = some ad ∧ q = ad.block, ⟨.slice (some ⟨g, 0, none⟩) (LG.length + 1) cap, cs ++ [.int .i64 at_, .slice a' xs.length c'], ?_⟩, ?_, ?_⟩
  · refine { blk := T5.set 4 _, own := ?_, gvt := ?_, gc := ?_, ut := .inl h.ut, ug := ?_, ul := ?_ }
    · exact Fr.own (by rw [List.length_append]; exact ho) fin (fun q hq => by
        have : g = q := by simpa [Value.ownBlock] using hq
        omega)
    · intro q hq
      have : g = q := by simpa [Value.ownBlock] using hq
      omega
    · intro i hi
      rw [List.length_append] at hi
      simp only [List.length_cons, List.length_nil] at hi
      have hcl : cs.length = LG.length * 2 := h.own.1
      rcases Nat.lt_or_ge i LG.length with h1 | h1
      · obtain ⟨q, c, e0, e1, nn, hb⟩ := h.gc i h1
        rw [List.getElem_append_left h1, List.getElem?_append_left (by omega), List.getElem?_append_left (by omega)]
        refine ⟨q, c, e0, e1, nums_fr (nums_fr nn f2 (fun ad e hh => (hb ad e).2.2 hh)) fin (fun ad e hh => (hb ad e).2.1 hh), fun p hp => ⟨.inl (hb p hp).1, (hb p hp).2.1, ?_⟩⟩
        intro hh
        have hpg : g = p.block := by simpa [Value.ownBlock] using hh
        rcases hat with e' | e'
        · exact (hb p hp).2.2 (by rw [e', hpg])
        · have := h.ul _ (hb p hp).1; omega
      · obtain rfl : i = LG.length := by omega
        rw [List.getElem_append_right (Nat.le_refl _), List.getElem?_append_right (by omega), List.getElem?_append_right (by omega)]
        simp only [Nat.sub_self, List.getElem_cons_zero]
        rw [show LG.length * 2 - cs.length = 0 by omega, show LG.length * 2 + 1 - cs.length = 1 by omega]
        refine ⟨a', c', rfl, rfl, nums_fr (nums_fr (nums_fr hn ((Fr.refl v (fun q => gv.ownBlock = some q)).al o) (fun ad e hh => by have := hgl _ hh; have := ha ad e; omega)) f1 (fun ad e hh => by have := hgl _ hh; have := ha ad e; omega)) fin (fun ad e hh => (av ad e).1 hh), fun p hp => ⟨.inr (.inr ⟨p, hp, rfl⟩), (av p hp).1, ?_⟩⟩
        intro hh
        have hpg : g = p.block := by simpa [Value.ownBlock] using hh
        exact (av p hp).2.1 hpg.symm
    · intro q hq
      have : g = q := by simpa [Value.ownBlock] using hq
      exact .inr (.inl this.symm)
    · intro q hq
      have h5 : ((w4.setCell ⟨t, 6, none⟩ (.slice (some ⟨g, 0, none⟩) (LG.length + 1) cap)).setCell ⟨t, 4, none⟩ (.int .i64 at')).heap.size = w4.heap.size := by simp
      have h6 := f2.size
      rw [h5]
      rcases hq with hq | rfl | ⟨ad, e, rfl⟩
      · have := h.ul q hq; omega
      · exact hgw
      · exact (av ad e).2.2
  · exact (f2.mono (fun q _ hq => h.ug q hq)).on (fin.mono (fun q _ e => by subst e; exact h.ut))
  · intro q hq
    rcases hq with hq | rfl | ⟨ad, e, rfl⟩
    · exact .inl hq
    · rcases hat with e' | e'
      · exact .inl (h.ug _ e')
      · right; omega
    · exact .inr (ha ad e).1
end
end Go.Proofs.Ytbghjcfepjbppaa
/-
  A READER TAKES MATCHES: take.
-/
namespace Go.Proofs.Ytbghjcfepjbppaa
open Go.RowKit
theorem info72 : (Try.prog.info? 72).map (fun i => (i.zero, i.size, i.bytes)) = some (some (.agg #[.int .i64 0, .slice none 0 0]), 2, 32) := by kernel_rfl
theorem one_got (n : Int) (a : Option Addr) (m c : Nat) : ∀ u ∈ ([.int .i64 n, .slice a m c] : List Value), u.oneCell' = true := by
  intro u hu
  simp only [List.mem_cons, List.not_mem_nil, or_false] at hu
  rcases hu with rfl | rfl <;> rfl
theorem own_slice {w : World} {B t s n : Nat} {v : Value} {xs : List Value} (h : w.ownsRow B t s v n xs) : ∃ a c, v = .slice a n c := by
  rcases h.2 with ⟨rfl, e⟩ | ⟨g, cap, cur, rfl, _⟩
  · exact ⟨none, 0, by rw [e]⟩
  · exact ⟨_, _, rfl⟩
/-- lists that are short enough to be copied -/
def Small (LL : List (List Int)) : Prop := ∀ xs ∈ LL, xs.length ≤ 17592186043904
set_option maxHeartbeats 4000000 in
set_option maxRecDepth 100000 in
theorem take_any {w : World} {U : Nat → Prop} {t : Nat} {nodes to : Int} {nm : ByteArray} {most at_ gone : Int} {LG : List (Int × List Int)} {a : Option Addr} {LL : List (List Int)} (c : Nat)
    (h : RdM w U t nodes to nm most at_ gone LG) (RW : ∀ w', Fr w w' U → Bk.Rws w' a LL) (hS : Small LL) (hl : LL.length ≤ 20) (hg : LG.length ≤ 5000) (ha : 0 ≤ at_ ∧ at_ + (LL.length : Int) ≤ 9223372036854775807) :
    Calls Try.prog 55 #[.pointer (some ⟨t, 0, none⟩), .slice a LL.length c] w fun e w' => e = .returned (.tuple #[]) ∧ Rch w U t nodes to nm most (at_ + (LL.length : Int)) gone (LG ++ numb at_ LL) w' := by
  obtain ⟨i72, hi, hz0, hz1, hz2⟩ := info_parts info72
  have R0 : Hid (Rch w U t nodes to nm most at_ gone LG w) := Lib.hid ⟨U, h, Fr.refl _ _, fun q hq => .inl hq⟩
  have RWh := Lib.hid RW
  have Sh := Lib.hid hS
  obtain ⟨n, hn⟩ : ∃ n, n = LL.length := ⟨_, rfl⟩
  have HN := Lib.hid hn
  rw [← hn] at hl ha ⊢
  obtain ⟨ha0, ha1⟩ := ha
  clear h RW hS hn
  go_enter Try.func55, Try.ntmps55
  go_wp2_with fail
  go_loopw [8] (fun i wr => ∃ (j : Nat), i = .int .i64 j ∧ j ≤ n ∧ Hid (Rch w U t nodes to nm most (at_ + (j : Int)) gone (LG ++ numb at_ (LL.take j)) wr))
    (fun i wr => n - (intOf i).toNat)
  case atStart => exact ⟨0, rfl, Nat.zero_le _, by simpa [numb] using R0⟩
  case round =>
    obtain ⟨j, rfl, hj, hR⟩ := hrel
    clear R0
    by_cases hjn : j < n
    · have jI : (j : Int) < (n : Int) := by omega
      have jB := decide_eq_true jI
      have hjL : j < LL.length := by rw [← HN.out]; exact hjn
      obtain ⟨U1, ⟨gv, cs, A⟩, f1, u1⟩ := hR.out
      obtain ⟨ga, go_, qa, cq, rfl, hga, ck, nn⟩ := RWh.out wr f1 j hjL
      obtain ⟨ua, uc, rfl⟩ := own_slice A.own
      have hsm := Sh.out _ (List.getElem_mem hjL)
      obtain ⟨x, hx⟩ : ∃ x, x = LL[j]'hjL := ⟨_, rfl⟩
      rw [← hx] at hsm nn ck
      have NT : numb at_ (LL.take (j + 1)) = numb at_ (LL.take j) ++ [(at_ + (j : Int), x)] := by rw [hx]; exact numb_take hjL
      obtain ⟨W1, hW1, X1, B1⟩ : ∃ W1, W1 = wr.alloc (.cells #[.slice qa x.length cq] 70) ∧ Blk W1 wr.heap.size 70 #[.slice qa x.length cq] ∧ Below wr.heap.size wr W1 := ⟨_, rfl, Blk.new _ _ _, (Below.refl _ _).alloc (Nat.le_refl _) _⟩
      have A1 := A.fr (P := fun _ => False) (Fr.of_below B1 _) (fun _ hf => hf.elim)
      have GT := Lib.hid (got_any (w := W1.drew) (at_ + (j : Int)) cq (nn.next B1.drew) hsm)
      have PU := Lib.hid (fun (v w4 : World) (a' : Option Addr) (c' g cap : Nat) (o : Obj) bv hn ha ho hg hat => A1.push (v := v) (w4 := w4) (a' := a') (c' := c') (g := g) (cap := cap) (xs := x) o bv hn ha ho hg hat rfl)
      have OW := Lib.hid (fun (v : World) (bv : Below W1.heap.size W1 v) => Fr.own A1.own (Fr.of_below bv (fun _ => False)) (fun _ _ h => h))
      have TB := Lib.hid A1.blk
      have X1h := Lib.hid X1
      have W1h := Lib.hid hW1
      have htl : t < W1.heap.size := A1.blk.lt
      have hgl : LG.length + j ≤ 5020 := by omega
      have ln : (LG ++ numb at_ (LL.take j)).length = LG.length + j := by rw [List.length_append, numb_len, List.length_take, Nat.min_eq_left (Nat.le_of_lt hjL)]
      have FIN := Lib.hid (fun (w9 : World) (at' : Int) (e : at' = at_ + (j : Int) + 1) (k : Rch W1 U1 t nodes to nm most at' gone (LG ++ numb at_ (LL.take j) ++ [(at_ + (j : Int), x)]) w9) => show Rch w U t nodes to nm most (at_ + ((j + 1 : Nat) : Int)) gone (LG ++ numb at_ (LL.take (j + 1))) w9 from by
        rw [NT, ← List.append_assoc]
        rw [show at_ + ((j + 1 : Nat) : Int) = at' by omega]
        obtain ⟨U2, k1, k2, k3⟩ := k
        have fB : Fr wr W1 (fun _ => False) := Fr.of_below B1 _
        refine ⟨U2, k1, (f1.trans (fB.trans k2 (fun _ _ h => h.elim) (fun _ _ h => h) : Fr wr w9 U1) (fun _ _ h => h) (fun q hq hh => ?_)), fun q hq => ?_⟩
        · rcases u1 q hh with h | h
          · exact h
          · omega
        · rcases k3 q hq with h | h
          · exact u1 q h
          · exact .inr (Nat.le_trans f1.size (Nat.le_trans fB.size h)))
      have hwr : wrap64 (at_ + (j : Int) + 1) = at_ + (j : Int) + 1 := by unfold wrap64; omega
      clear hR A1 A nn hsm X1 B1 hW1 f1 u1 NT hx
      rw [ln] at PU OW TB
      clear ln
      unfold GotR at GT
      have HM := Lib.hid (rfl : x.length = x.length)
      generalize x.length = m at *
      have t6 : W1.drew.cell? ⟨t, 6, none⟩ = some (.slice ua (LG.length + j) uc) := TB.out.cell 6
      have t4 : W1.drew.cell? ⟨t, 4, none⟩ = some (.int .i64 (at_ + (j : Int))) := TB.out.cell 4
      have x0 : W1.drew.cell? ⟨wr.heap.size, 0, none⟩ = some (.slice qa m cq) := X1h.out.cell 0
      have hlI : (LG.length : Int) + (j : Int) ≤ 5020 := by omega
      generalize LG.length + j = r at *
      go_wp2_with fail
      rw [← W1h.out]
      go_region_law
        (first
          | (refine step_append_lies _ rfl (.tmp 16) (.tmp 23) 67 rfl 0 72 i72 (.agg #[.int .i64 0, .slice none 0 0]) 2 32 Try.underlying67 hi hz0 hz1 hz2 rfl (by decide) (.slice ua r uc) r cs rfl (World.ownsRow.alloc OW2.out _) ⟨v2.heap.size, 0, none⟩ 1 1 [.int .i64 (at_ + (j : Int)), .slice a2 m c2] rfl rfl (World.news_of_block (cs := #[.int .i64 (at_ + (j : Int)), .slice a2 m c2]) (heap_alloc_new v2 _)) (one_got _ a2 m c2) (by decide) (by unfold maxLen; omega) (by omega) (Nat.zero_le _) _ rfl ?_; intro g4 cap4 w4 ho4 hg4 hat4 _; obtain ⟨q1, q2, q3, q4, q5⟩ := PU.out v2 w4 a2 c2 g4 cap4 _ BV.out nn2.out hp2.out ho4 hg4 hat4; have K4h := Lib.hid (q5 (at_ + (j : Int) + 1)); clear q5 ho4 hg4 hat4)
          | (go_simp; go_at_call 56; refine GT.out.mono ?_; rintro r9 v2 ⟨a2, c2, rfl, nn2, hp2, b2⟩; have BV : Hid (Below W1.heap.size W1 v2) := Lib.hid ((Below.refl W1.heap.size W1).drew.trans b2); have OW2 := Lib.hid (OW.out v2 BV.out); have nn2 := Lib.hid nn2; have hp2 : Hid (∀ ad, a2 = some ad → W1.heap.size ≤ ad.block ∧ ad.block < v2.heap.size) := Lib.hid hp2; have c5 : v2.cell? ⟨t, 6, none⟩ = some (.slice ua r uc) := (TB.out.below BV.out).cell 6; have hTv : (⟨t, 6, none⟩ : Addr).block < v2.heap.size := (TB.out.below BV.out).lt; have c6 : ∀ o, (v2.alloc o).cell? ⟨t, 6, none⟩ = some (.slice ua r uc) := fun o => (World.cell?_alloc_lt _ _ _ hTv).trans c5; clear b2))
      all_goals (
        go_wp2_with fail
        go_roundw
        case rel => exact ⟨j + 1, by go_num, by omega, Lib.hid (FIN.out _ _ rfl K4h.out)⟩
        case measure => simp [intOf]; omega)
    · obtain rfl : j = n := by omega
      have jI : ¬ (j : Int) < (j : Int) := by omega
      have R9 : Hid (Rch w U t nodes to nm most (at_ + (j : Int)) gone (LG ++ numb at_ LL) wr) := Lib.hid (by
        have := hR.out
        rw [List.take_of_length_le (Nat.le_of_eq HN.out.symm)] at this
        exact this)
      clear hR
      go_wp2_with fail
      go_end0
      exact ⟨rfl, R9.out⟩
end Go.Proofs.Ytbghjcfepjbppaa
/-
  WHAT A READER GOT, COPIED: Got.
-/
namespace Go.Proofs.Ytbghjcfepjbppaa
open Go.RowKit
/-- matches with their numbers that the call made -/
structure GoA (w0 w : World) (LG : List (Int × List Int)) (gv : Value) (cs : List Value) : Prop where
  own : w.ownsRow w0.heap.size 72 2 gv LG.length cs
  gc : ∀ i (h : i < LG.length), ∃ q c, cs[i * 2]? = some (.int .i64 LG[i].1) ∧ cs[i * 2 + 1]? = some (.slice q LG[i].2.length c) ∧ Bk.Nums w q LG[i].2 ∧ ∀ p, q = some p → w0.heap.size ≤ p.block ∧ p.block < w.heap.size ∧ gv.ownBlock ≠ some p.block
  b : Below w0.heap.size w0 w
theorem goA_nil (w0 w : World) (b : Below w0.heap.size w0 w) : GoA w0 w [] (.slice none 0 0) [] := ⟨World.ownsRow_nil _ _ _ _, fun i h => by simp at h, b⟩
theorem GoA.push {w0 w v w4 : World} {LG : List (Int × List Int)} {gv : Value} {cs : List Value} {a' : Option Addr} {c' g cap : Nat} {n : Int} {xs : List Int} (o : Obj) (h : GoA w0 w LG gv cs) (bv : Below w.heap.size w v)
    (hn : Bk.Nums v a' xs) (ha : ∀ ad, a' = some ad → w.heap.size ≤ ad.block ∧ ad.block < v.heap.size)
    (ho : w4.ownsRow w0.heap.size 72 2 (.slice (some ⟨g, 0, none⟩) (LG.length + 1) cap) (LG.length + 1) (cs ++ [.int .i64 n, .slice a' xs.length c'])) (hg : (v.alloc o).grownBy w4 gv.ownBlock) (hat : gv.ownBlock = some g ∨ g = (v.alloc o).heap.size) :
    GoA w0 w4 (LG ++ [(n, xs)]) (.slice (some ⟨g, 0, none⟩) (LG.length + 1) cap) (cs ++ [.int .i64 n, .slice a' xs.length c']) := by
  have hgl : ∀ q, gv.ownBlock = some q → w0.heap.size ≤ q ∧ q < w.heap.size := fun q hq => World.ownsRow.lt h.own q hq
  have hs1 : (v.alloc o).heap.size = v.heap.size + 1 := by simp
  have hvs := bv.size
  have f0 : Fr w (v.alloc o) (fun q => gv.ownBlock = some q) := (Fr.of_below bv _).al o
  have f1 : Fr (v.alloc o) w4 (fun q => gv.ownBlock = some q) := (Fr.of_grown hg).mono (fun q _ h => h.symm)
  have f2 : Fr w w4 (fun q => gv.ownBlock = some q) := f0.on f1
  have h6 := f2.size
  have h7 := f1.size
  have hb6 := h.b.size
  have avg : ∀ ad, a' = some ad → ad.block ≠ g := fun ad e => by
    have h1 := ha ad e
    rcases hat with e' | e'
    · have := hgl g e'; omega
    · omega
  refine ⟨by rw [List.length_append]; exact ho, fun i hi => ?_, h.b.trans (f2.below (fun q hq => (hgl q hq).1) hb6)⟩
  rw [List.length_append] at hi
  simp only [List.length_cons, List.length_nil] at hi
  have hcl : cs.length = LG.length * 2 := h.own.1
  rcases Nat.lt_or_ge i LG.length with h1 | h1
  · obtain ⟨q, c, e0, e1, nn, hb⟩ := h.gc i h1
    rw [List.getElem_append_left h1, List.getElem?_append_left (by omega), List.getElem?_append_left (by omega)]
    refine ⟨q, c, e0, e1, nums_fr nn f2 (fun ad e hh => (hb ad e).2.2 hh), fun p hp => ⟨(hb p hp).1, by have := (hb p hp).2.1; omega, ?_⟩⟩
    intro hh
    have hpg : g = p.block := by simpa [Value.ownBlock] using hh
    rcases hat with e' | e'
    · exact (hb p hp).2.2 (by rw [e', hpg])
    · have := (hb p hp).2.1; omega
  · obtain rfl : i = LG.length := by omega
    rw [List.getElem_append_right (Nat.le_refl _), List.getElem?_append_right (by omega), List.getElem?_append_right (by omega)]
    simp only [Nat.sub_self, List.getElem_cons_zero]
    rw [show LG.length * 2 - cs.length = 0 by omega, show LG.length * 2 + 1 - cs.length = 1 by omega]
    refine ⟨a', c', rfl, rfl, nums_fr (nums_fr hn ((Fr.refl v (fun q => gv.ownBlock = some q)).al o) (fun ad e hh => by have := hgl _ hh; have := ha ad e; omega)) f1 (fun ad e hh => by have := hgl _ hh; have := ha ad e; omega), fun p hp => ⟨by have := (ha p hp).1; omega, by have := (ha p hp).2; omega, ?_⟩⟩
    intro hh
    have hpg : g = p.block := by simpa [Value.ownBlock] using hh
    exact avg p hp hpg.symm
theorem GoA.next {w0 w w' : World} {LG : List (Int × List Int)} {gv : Value} {cs : List Value} (h : GoA w0 w LG gv cs) (b : Below w.heap.size w w') : GoA w0 w' LG gv cs := by
  refine ⟨Fr.own h.own (Fr.of_below b (fun _ => False)) (fun _ _ h => h), fun i hi => ?_, h.b.trans (b.mono h.b.size)⟩
  obtain ⟨q, c, e0, e1, nn, hb⟩ := h.gc i hi
  exact ⟨q, c, e0, e1, nn.next b, fun p hp => ⟨(hb p hp).1, Nat.lt_of_lt_of_le (hb p hp).2.1 b.size, (hb p hp).2.2⟩⟩
/-- matches with their numbers that can be read -/
def Grw (w : World) (a : Option Addr) (LG : List (Int × List Int)) : Prop := ∀ i (h : i < LG.length), ∃ g q c, a = some ⟨g, 0, none⟩ ∧ g < w.heap.size ∧ w.cell? ⟨g, i * 2, none⟩ = some (.int .i64 LG[i].1) ∧ w.cell? ⟨g, i * 2 + 1, none⟩ = some (.slice q LG[i].2.length c) ∧ Bk.Nums w q LG[i].2
theorem grw_own {w : World} {B : Nat} {a : Option Addr} {n c : Nat} {cs : List Value} {LG : List (Int × List Int)} (ho : w.ownsRow B 72 2 (.slice a n c) LG.length cs)
    (gc : ∀ i (h : i < LG.length), ∃ q c, cs[i * 2]? = some (.int .i64 LG[i].1) ∧ cs[i * 2 + 1]? = some (.slice q LG[i].2.length c) ∧ Bk.Nums w q LG[i].2) : Grw w a LG := by
  intro i hi
  obtain ⟨q, cq, e0, e1, nn⟩ := gc i hi
  have hcl : cs.length = LG.length * 2 := ho.1
  have h0 := ho
  rcases ho.2 with ⟨_, e3⟩ | ⟨g, cap, cur, e3, hb, hg, _⟩
  · omega
  · obtain ⟨rfl, rfl, rfl⟩ : a = some ⟨g, 0, none⟩ ∧ n = LG.length ∧ c = cap := by
      simp only [Value.slice.injEq] at e3; exact e3
    exact ⟨g, q, cq, rfl, (Array.getElem?_eq_some_iff.1 hg).1, by rw [h0.cellAt _ (by omega)]; exact e0, by rw [h0.cellAt _ (by omega)]; exact e1, nn⟩
/-- what Got answers -/
def Glst (w : World) (LG : List (Int × List Int)) (e : Ending) (w' : World) : Prop := ∃ a' c', e = .returned (.slice a' LG.length c') ∧ Grw w' a' LG ∧ Below w.heap.size w w'
set_option maxHeartbeats 4000000 in
set_option maxRecDepth 100000 in
theorem rgot_any {w : World} {U : Nat → Prop} {t : Nat} {nodes to : Int} {nm : ByteArray} {most at_ gone : Int} {LG : List (Int × List Int)}
    (h : RdM w U t nodes to nm most at_ gone LG) (hS : ∀ x ∈ LG, x.2.length ≤ 17592186043904) (hg : LG.length ≤ 5000) :
    Calls Try.prog 26 #[.pointer (some ⟨t, 0, none⟩)] w (Glst w LG) := by
  obtain ⟨i72, hi, hz0, hz1, hz2⟩ := info_parts info72
  obtain ⟨gv, cs0, A⟩ := h
  obtain ⟨ua0, uc0, rfl⟩ := own_slice A.own
  have SRC : Hid (∀ wr, Below w.heap.size w wr → ∀ j (hj : j < LG.length), ∃ g q c, ua0 = some ⟨g, 0, none⟩ ∧ wr.cell? ⟨g, j * 2, none⟩ = some (.int .i64 LG[j].1) ∧ wr.cell? ⟨g, j * 2 + 1, none⟩ = some (.slice q LG[j].2.length c) ∧ Bk.Nums wr q LG[j].2) := Lib.hid (by
    intro wr b j hj
    have A1 := A.fr (P := fun _ => False) (Fr.of_below b _) (fun _ hf => hf.elim)
    obtain ⟨g, q, c, e, _, k0, k1, nn⟩ := grw_own A1.own (fun i hi => by obtain ⟨q, c, e0, e1, nn, _⟩ := A1.gc i hi; exact ⟨q, c, e0, e1, nn⟩) j hj
    exact ⟨g, q, c, e, k0, k1, nn⟩)
  have c6 : w.cell? ⟨t, 6, none⟩ = some (.slice ua0 LG.length uc0) := A.blk.cell 6
  have Sh := Lib.hid hS
  have R0 : Hid (GoA w w [] (.slice none 0 0) []) := Lib.hid (goA_nil w w (Below.refl _ _))
  obtain ⟨n, hn⟩ : ∃ n, n = LG.length := ⟨_, rfl⟩
  have HN := Lib.hid hn
  rw [← hn] at hg c6
  have hgI : (n : Int) ≤ 5000 := by omega
  clear A hS hn
  go_enter Try.func26, Try.ntmps26
  go_wp2_with fail
  go_loopw [2, 12] (fun v i wr => ∃ (j : Nat) (cs : List Value), i = .int .i64 j ∧ j ≤ n ∧ Hid (GoA w wr (LG.take j) v cs))
    (fun v i wr => n - (intOf i).toNat)
  case atStart => exact ⟨0, [], rfl, Nat.zero_le _, R0⟩
  case round =>
    obtain ⟨j, cs, rfl, hj, hR⟩ := hrel
    clear R0 c6
    have ljn : (LG.take j).length = j := by rw [List.length_take, Nat.min_eq_left (by rw [← HN.out]; exact hj)]
    have O1 := hR.out.own
    rw [ljn] at O1
    obtain ⟨va, vc, rfl⟩ := own_slice O1
    by_cases hjn : j < n
    · have jI : (j : Int) < (n : Int) := by omega
      have jB := decide_eq_true jI
      have hjL : j < LG.length := by rw [← HN.out]; exact hjn
      obtain ⟨x, hx⟩ : ∃ x, x = LG[j]'hjL := ⟨_, rfl⟩
      have hTk : LG.take (j + 1) = LG.take j ++ [x] := by rw [hx]; exact List.take_succ_eq_append_getElem hjL
      have hxm : x ∈ LG := by rw [hx]; exact List.getElem_mem hjL
      have hsm := Sh.out x hxm
      obtain ⟨g0, q0, k0, rfl, ck0, ck1, nn⟩ := SRC.out wr hR.out.b j hjL
      rw [← hx] at ck0 ck1 nn
      obtain ⟨xn, xs⟩ := x
      simp only at ck0 ck1 nn hsm
      obtain ⟨W1, hW1, X1, B1⟩ : ∃ W1, W1 = wr.alloc (.cells #[.int .i64 xn, .slice q0 xs.length k0] 72) ∧ Blk W1 wr.heap.size 72 #[.int .i64 xn, .slice q0 xs.length k0] ∧ Below wr.heap.size wr W1 := ⟨_, rfl, Blk.new _ _ _, (Below.refl _ _).alloc (Nat.le_refl _) _⟩
      have GT := Lib.hid (got_any (w := W1) xn k0 (nn.next B1) hsm)
      have PU := Lib.hid (fun (v w4 : World) (a' : Option Addr) (c' g cap : Nat) (o : Obj) bv hn ha ho hg hat => (hR.out.next B1).push (v := v) (w4 := w4) (a' := a') (c' := c') (g := g) (cap := cap) (n := xn) (xs := xs) o bv hn ha ho hg hat)
      have OW := Lib.hid (fun (v : World) (bv : Below W1.heap.size W1 v) => Fr.own (hR.out.next B1).own (Fr.of_below bv (fun _ => False)) (fun _ _ h => h))
      have hbs := Nat.le_trans hR.out.b.size B1.size
      rw [ljn] at PU OW
      rw [← hTk] at PU
      have X1h := Lib.hid X1
      have W1h := Lib.hid hW1
      have x0 : W1.cell? ⟨wr.heap.size, 0, none⟩ = some (.int .i64 xn) := X1.cell 0
      have x1 : W1.cell? ⟨wr.heap.size, 1, none⟩ = some (.slice q0 xs.length k0) := X1.cell 1
      clear hR O1 X1 B1 hW1 nn hsm hxm hTk hx
      unfold GotR at GT
      generalize xs.length = m at *
      go_wp2_with fail
      rw [← W1h.out]
      go_wp2_with fail
      refine GT.out.mono ?_
      rintro r9 v2 ⟨a2, c2, rfl, nn2, hp2, b2⟩
      have BV := Lib.hid b2
      have nn2 := Lib.hid nn2
      have hp2 := Lib.hid hp2
      have OW2 := Lib.hid (OW.out v2 b2)
      have hb2 := Nat.le_trans hbs b2.size
      clear b2 GT x0 x1 ck0 ck1
      go_wp2_with (at_builtin; refine wpList_append_lies _ rfl (.tmp 16) (.tmp 22) 67 rfl w.heap.size 72 i72 (.agg #[.int .i64 0, .slice none 0 0]) 2 32 Try.underlying67 hi hz0 hz1 hz2 rfl (by decide) (.slice va j vc) j cs rfl (World.ownsRow.alloc OW2.out _) ⟨v2.heap.size, 0, none⟩ 1 1 [.int .i64 xn, .slice a2 m c2] rfl rfl (World.news_of_block (cs := #[.int .i64 xn, .slice a2 m c2]) (heap_alloc_new v2 _)) (one_got _ a2 m c2) (by decide) (by unfold maxLen; omega) (by omega) (by simp; omega) _ rfl ?_; intro g4 cap4 w4 ho4 hg4 hat4 _; have K4h := Lib.hid (PU.out v2 w4 a2 c2 g4 cap4 _ BV.out nn2.out hp2.out ho4 hg4 hat4); clear ho4 hg4 hat4)
      go_roundw
      case rel => exact ⟨j + 1, _, by go_num, by omega, K4h⟩
      case measure => simp [intOf]; omega
    · obtain rfl : j = n := by omega
      have jI : ¬ (j : Int) < (j : Int) := by omega
      have hT : LG.take j = LG := List.take_of_length_le (Nat.le_of_eq HN.out.symm)
      have R9 : Hid (GoA w wr LG (.slice va j vc) cs) := Lib.hid (by have := hR.out; rw [hT] at this; exact this)
      have F9 : Hid (Glst w LG (.returned (.slice va j vc)) wr) := Lib.hid ⟨va, vc, by rw [← HN.out], grw_own R9.out.own (fun i hi => by obtain ⟨q, c, e0, e1, nn, _⟩ := R9.out.gc i hi; exact ⟨q, c, e0, e1, nn⟩), R9.out.b⟩
      clear hR O1 R9
      generalize Glst w LG = Q at *
      go_wp2_with fail
      (try go_ret)
      exact F9.out
end Go.Proofs.Ytbghjcfepjbppaa
/-
  A ROW OF EVENTS WITH THEIR FIELDS, IN MEMORY; what was refused, copied: Refused.
-/
namespace Go.Proofs.Ytbghjcfepjbppaa
open Go.RowKit
structure EvD where
  a : Int
  b : Int
  c : Int
  k : ByteArray
  L : List Fld
def EvD.cells (x : EvD) (q : Option Addr) (cp : Nat) : List Value := encE x.a x.b x.c x.k (.slice q x.L.length cp)
/-- events that lie in a row from B on, their fields too -/
structure EvA (B : Nat) (w : World) (LE : List EvD) (v : Value) (cs : List Value) : Prop where
  own : w.ownsRow B 31 5 v LE.length cs
  gc : ∀ i (h : i < LE.length), ∃ q cp, (∀ j, j < 5 → cs[i * 5 + j]? = (LE[i].cells q cp)[j]?) ∧ Flds w q LE[i].L ∧ ∀ p, q = some p → B ≤ p.block ∧ p.block < w.heap.size ∧ v.ownBlock ≠ some p.block
theorem evA_nil (B : Nat) (w : World) : EvA B w [] (.slice none 0 0) [] := ⟨World.ownsRow_nil _ _ _ _, fun i h => by simp at h⟩
variable {B : Nat} {w v w4 w' : World} {LE : List EvD} {gv : Value} {cs : List Value}
theorem EvA.push {a' : Option Addr} {c' g cap : Nat} {x : EvD} (o : Obj) (h : EvA B w LE gv cs) (hB : B ≤ w.heap.size) (bv : Below w.heap.size w v)
    (hn : Flds v a' x.L) (ha : ∀ ad, a' = some ad → w.heap.size ≤ ad.block ∧ ad.block < v.heap.size)
    (ho : w4.ownsRow B 31 5 (.slice (some ⟨g, 0, none⟩) (LE.length + 1) cap) (LE.length + 1) (cs ++ x.cells a' c')) (hg : (v.alloc o).grownBy w4 gv.ownBlock) (hat : gv.ownBlock = some g ∨ g = (v.alloc o).heap.size) :
    EvA B w4 (LE ++ [x]) (.slice (some ⟨g, 0, none⟩) (LE.length + 1) cap) (cs ++ x.cells a' c') ∧ Fr w w4 (fun q => gv.ownBlock = some q) := by
  have hgl : ∀ q, gv.ownBlock = some q → B ≤ q ∧ q < w.heap.size := fun q hq => World.ownsRow.lt h.own q hq
  have hs1 : (v.alloc o).heap.size = v.heap.size + 1 := by simp
  have hvs := bv.size
  have f0 : Fr w (v.alloc o) (fun q => gv.ownBlock = some q) := (Fr.of_below bv _).al o
  have f1 : Fr (v.alloc o) w4 (fun q => gv.ownBlock = some q) := (Fr.of_grown hg).mono (fun q _ h => h.symm)
  have f2 : Fr w w4 (fun q => gv.ownBlock = some q) := f0.on f1
  have h6 := f2.size
  have h7 := f1.size
  have avg : ∀ ad, a' = some ad → ad.block ≠ g := fun ad e => by
    have h1 := ha ad e
    rcases hat with e' | e'
    · have := hgl g e'; omega
    · omega
  refine ⟨⟨by rw [List.length_append]; exact ho, fun i hi => ?_⟩, f2⟩
  rw [List.length_append] at hi
  simp only [List.length_cons, List.length_nil] at hi
  have hcl : cs.length = LE.length * 5 := h.own.1
  rcases Nat.lt_or_ge i LE.length with h1 | h1
  · obtain ⟨q, c, e, nn, hb⟩ := h.gc i h1
    rw [List.getElem_append_left h1]
    refine ⟨q, c, fun j hj => by rw [List.getElem?_append_left (by omega)]; exact e j hj, nn.fr f2 (fun ad e hh => (hb ad e).2.2 hh), fun p hp => ⟨(hb p hp).1, by have := (hb p hp).2.1; omega, ?_⟩⟩
    intro hh
    have hpg : g = p.block := by simpa [Value.ownBlock] using hh
    rcases hat with e' | e'
    · exact (hb p hp).2.2 (by rw [e', hpg])
    · have := (hb p hp).2.1; omega
  · obtain rfl : i = LE.length := by omega
    rw [List.getElem_append_right (Nat.le_refl _)]
    simp only [Nat.sub_self, List.getElem_cons_zero]
    refine ⟨a', c', fun j hj => by rw [List.getElem?_append_right (by omega), show LE.length * 5 + j - cs.length = j by omega], (hn.fr ((Fr.refl v (fun q => gv.ownBlock = some q)).al o) (fun ad e hh => by have := hgl _ hh; have := ha ad e; omega)).fr f1 (fun ad e hh => by have := hgl _ hh; have := ha ad e; omega), fun p hp => ⟨by have := (ha p hp).1; omega, by have := (ha p hp).2; omega, ?_⟩⟩
    intro hh
    have hpg : g = p.block := by simpa [Value.ownBlock] using hh
    exact avg p hp hpg.symm
theorem EvA.fr {P : Nat → Prop} (h : EvA B w LE gv cs) (f : Fr w w' P) (hP : ∀ q, P q → gv.ownBlock ≠ some q) (hF : ∀ i (hi : i < LE.length) q cp, (∀ j, j < 5 → cs[i * 5 + j]? = (LE[i].cells q cp)[j]?) → ∀ p, q = some p → ¬ P p.block) : EvA B w' LE gv cs := by
  refine ⟨Fr.own h.own f (fun q e hq => hP q hq e), fun i hi => ?_⟩
  obtain ⟨q, c, e, nn, hb⟩ := h.gc i hi
  exact ⟨q, c, e, nn.fr f (fun ad e' => hF i hi q c e ad e'), fun p hp => ⟨(hb p hp).1, Nat.lt_of_lt_of_le (hb p hp).2.1 f.size, (hb p hp).2.2⟩⟩
theorem EvA.next (h : EvA B w LE gv cs) (b : Below w.heap.size w w') : EvA B w' LE gv cs := by
  refine h.fr (Fr.of_below b (fun _ => False)) (fun _ h => h.elim) (fun _ _ _ _ _ _ _ h => h)
/-- events that can be read -/
def Evs (w : World) (a : Option Addr) (LE : List EvD) : Prop := ∀ i (h : i < LE.length), ∃ g q cp, a = some ⟨g, 0, none⟩ ∧ g < w.heap.size ∧ (∀ j, j < 5 → w.cell? ⟨g, i * 5 + j, none⟩ = (LE[i].cells q cp)[j]?) ∧ Flds w q LE[i].L
theorem EvA.evs {a : Option Addr} {n c : Nat} (h : EvA B w LE (.slice a n c) cs) : Evs w a LE := by
  intro i hi
  obtain ⟨q, cp, e, nn, _⟩ := h.gc i hi
  have hcl : cs.length = LE.length * 5 := h.own.1
  have h0 := h.own
  rcases h.own.2 with ⟨_, e3⟩ | ⟨g, cap, cur, e3, hb, hg, _⟩
  · omega
  · obtain ⟨rfl, rfl, rfl⟩ : a = some ⟨g, 0, none⟩ ∧ n = LE.length ∧ c = cap := by
      simp only [Value.slice.injEq] at e3; exact e3
    exact ⟨g, q, cp, rfl, (Array.getElem?_eq_some_iff.1 hg).1, fun j hj => by rw [h0.cellAt _ (by omega)]; exact e j hj, nn⟩
theorem Evs.next {a : Option Addr} (h : Evs w a LE) (b : Below w.heap.size w w') : Evs w' a LE := fun i hi => by
  obtain ⟨g, q, c, e, hg, e5, nn⟩ := h i hi
  exact ⟨g, q, c, e, Nat.lt_of_lt_of_le hg b.size, fun j hj => (b.cell (p := ⟨g, _, none⟩) hg).trans (e5 j hj), nn.below b⟩
end Go.Proofs.Ytbghjcfepjbppaa
/-
  WHAT WAS REFUSED, COPIED: Refused.
-/
namespace Go.Proofs.Ytbghjcfepjbppaa
open Go.RowKit
/-- an event that a copy bears -/
def EvD.sm (x : EvD) : Prop := x.k.size ≤ 281474976710656 ∧ x.L.length ≤ 1000 ∧ ∀ f ∈ x.L, f.nm.size ≤ 281474976710656 ∧ f.v.s.size ≤ 281474976710656
/-- what Refused answers -/
def Elst (w : World) (LE : List EvD) (e : Ending) (w' : World) : Prop := ∃ a' c', e = .returned (.slice a' LE.length c') ∧ Evs w' a' LE ∧ Below w.heap.size w w'
set_option maxHeartbeats 4000000 in
set_option maxRecDepth 100000 in
theorem refused_any {w : World} {t : Nat} {nodes to id sq : Int} {wv : Value} {ua0 : Option Addr} {uc0 : Nat} {LE : List EvD}
    (T : Blk w t 98 (tel nodes to id sq wv (.slice ua0 LE.length uc0))) (hE : Evs w ua0 LE) (hS : ∀ x ∈ LE, x.sm) (hg : LE.length ≤ 5000) :
    Calls Try.prog 37 #[.pointer (some ⟨t, 0, none⟩)] w (Elst w LE) := by
  obtain ⟨i31, hi, hz0, hz1, hz2⟩ := info_parts info31
  have SRC := Lib.hid (fun (wr : World) (b : Below w.heap.size w wr) => hE.next b)
  have c6 : w.cell? ⟨t, 5, none⟩ = some (.slice ua0 LE.length uc0) := T.cell 5
  have Sh := Lib.hid hS
  have R0 : Hid (EvA w.heap.size w [] (.slice none 0 0) [] ∧ Below w.heap.size w w) := Lib.hid ⟨evA_nil _ w, Below.refl _ _⟩
  obtain ⟨n, hn⟩ : ∃ n, n = LE.length := ⟨_, rfl⟩
  have HN := Lib.hid hn
  rw [← hn] at hg c6
  have hgI : (n : Int) ≤ 5000 := by omega
  clear T hS hn hE
  go_enter Try.func37, Try.ntmps37
  go_wp2_with fail
  go_loopw [2, 12] (fun v i wr => ∃ (j : Nat) (cs : List Value), i = .int .i64 j ∧ j ≤ n ∧ Hid (EvA w.heap.size wr (LE.take j) v cs ∧ Below w.heap.size w wr))
    (fun v i wr => n - (intOf i).toNat)
  case atStart => exact ⟨0, [], rfl, Nat.zero_le _, R0⟩
  case round =>
    obtain ⟨j, cs, rfl, hj, hR⟩ := hrel
    clear R0 c6
    have ljn : (LE.take j).length = j := by rw [List.length_take, Nat.min_eq_left (by rw [← HN.out]; exact hj)]
    have O1 := hR.out.1.own
    rw [ljn] at O1
    obtain ⟨va, vc, rfl⟩ := own_slice O1
    by_cases hjn : j < n
    · have jI : (j : Int) < (n : Int) := by omega
      have jB := decide_eq_true jI
      have hjL : j < LE.length := by rw [← HN.out]; exact hjn
      obtain ⟨x, hx⟩ : ∃ x, x = LE[j]'hjL := ⟨_, rfl⟩
      have hTk : LE.take (j + 1) = LE.take j ++ [x] := by rw [hx]; exact List.take_succ_eq_append_getElem hjL
      have hxm : x ∈ LE := by rw [hx]; exact List.getElem_mem hjL
      have hsm := Sh.out x hxm
      obtain ⟨g0, q0, k0, rfl, hg0, ce, nn⟩ := SRC.out wr hR.out.2 j hjL
      rw [← hx] at ce nn
      obtain ⟨xa, xb, xc, xk, xL⟩ := x
      have r0 : wr.cell? ⟨g0, j * 5, none⟩ = some (.int .i64 xa) := ce 0 (by decide)
      have r1 : wr.cell? ⟨g0, j * 5 + 1, none⟩ = some (.int .i64 xb) := ce 1 (by decide)
      have r2 : wr.cell? ⟨g0, j * 5 + 2, none⟩ = some (.int .i64 xc) := ce 2 (by decide)
      have r3 : wr.cell? ⟨g0, j * 5 + 3, none⟩ = some (.string xk) := ce 3 (by decide)
      have r4 : wr.cell? ⟨g0, j * 5 + 4, none⟩ = some (.slice q0 xL.length k0) := ce 4 (by decide)
      simp only at nn hsm
      obtain ⟨W1, hW1, X1, B1⟩ : ∃ W1, W1 = wr.alloc (.cells #[.int .i64 xa, .int .i64 xb, .int .i64 xc, .string xk, .slice q0 xL.length k0] 31) ∧ Blk W1 wr.heap.size 31 #[.int .i64 xa, .int .i64 xb, .int .i64 xc, .string xk, .slice q0 xL.length k0] ∧ Below wr.heap.size wr W1 := ⟨_, rfl, Blk.new _ _ _, (Below.refl _ _).alloc (Nat.le_refl _) _⟩
      have GT := Lib.hid (copied_any (w := W1) xa xb xc xk hsm.1 k0 (nn.below B1) hsm.2.1 hsm.2.2)
      have hbs := Nat.le_trans hR.out.2.size B1.size
      have BW := Lib.hid (hR.out.2.trans (B1.mono hR.out.2.size))
      have PU : Hid (∀ (v w4 : World) (a' : Option Addr) (c' g cap : Nat) (o : Obj), Below W1.heap.size W1 v → Flds v a' xL → (∀ ad, a' = some ad → W1.heap.size ≤ ad.block ∧ ad.block < v.heap.size) → w4.ownsRow w.heap.size 31 5 (.slice (some ⟨g, 0, none⟩) (j + 1) cap) (j + 1) (cs ++ encE xa xb xc xk (.slice a' xL.length c')) → (v.alloc o).grownBy w4 (Value.slice va j vc).ownBlock → ((Value.slice va j vc).ownBlock = some g ∨ g = (v.alloc o).heap.size) →
          EvA w.heap.size w4 (LE.take (j + 1)) (.slice (some ⟨g, 0, none⟩) (j + 1) cap) (cs ++ encE xa xb xc xk (.slice a' xL.length c')) ∧ Below w.heap.size w w4) := Lib.hid (by
        intro v w4 a' c' g cap o bv hn ha ho hg hat
        have := (hR.out.1.next B1).push (v := v) (w4 := w4) (a' := a') (c' := c') (g := g) (cap := cap) (x := ⟨xa, xb, xc, xk, xL⟩) o hbs bv hn ha (by rw [ljn]; exact ho) hg hat
        rw [← hTk, ljn] at this
        exact ⟨this.1, BW.out.trans (this.2.below (fun q hq => (World.ownsRow.lt O1 q hq).1) hbs)⟩)
      have OW := Lib.hid (fun (v : World) (bv : Below W1.heap.size W1 v) => Fr.own (hR.out.1.next B1).own (Fr.of_below bv (fun _ => False)) (fun _ _ h => h))
      rw [ljn] at OW
      have X1h := Lib.hid X1
      have W1h := Lib.hid hW1
      have x0 : W1.cell? ⟨wr.heap.size, 0, none⟩ = some (.int .i64 xa) := X1.cell 0
      have x1 : W1.cell? ⟨wr.heap.size, 1, none⟩ = some (.int .i64 xb) := X1.cell 1
      have x2 : W1.cell? ⟨wr.heap.size, 2, none⟩ = some (.int .i64 xc) := X1.cell 2
      have x3 : W1.cell? ⟨wr.heap.size, 3, none⟩ = some (.string xk) := X1.cell 3
      have x4 : W1.cell? ⟨wr.heap.size, 4, none⟩ = some (.slice q0 xL.length k0) := X1.cell 4
      clear hR O1 X1 B1 hW1 nn hsm hxm hTk hx ce BW
      unfold CopR at GT
      unfold evV at *
      generalize xL.length = m at *
      go_wp2_with fail
      rw [← W1h.out]
      go_wp2_with fail
      refine GT.out.mono ?_
      rintro r9 v2 ⟨a2, c2, rfl, nn2, hp2, b2⟩
      have BV := Lib.hid b2
      have nn2 := Lib.hid nn2
      have hp2 := Lib.hid hp2
      have OW2 := Lib.hid (OW.out v2 b2)
      have hb2 := Nat.le_trans hbs b2.size
      clear b2 GT x0 x1 x2 x3 x4 r0 r1 r2 r3 r4
      go_wp2_with (at_builtin; refine wpList_append_lies _ rfl (.tmp 16) (.tmp 19) 89 rfl w.heap.size 31 i31 (.agg #[.int .i64 0, .int .i64 0, .int .i64 0, .string ⟨#[]⟩, .slice none 0 0]) 5 64 Try.underlying89 hi hz0 hz1 hz2 rfl (by decide) (.slice va j vc) j cs rfl (World.ownsRow.alloc OW2.out _) ⟨v2.heap.size, 0, none⟩ 1 1 (encE xa xb xc xk (.slice a2 m c2)) rfl rfl (World.news_of_block (cs := #[.int .i64 xa, .int .i64 xb, .int .i64 xc, .string xk, .slice a2 m c2]) (heap_alloc_new v2 _)) (one_encE xa xb xc xk a2 m c2) (by decide) (by unfold maxLen; omega) (by omega) (by simp; omega) _ rfl ?_; intro g4 cap4 w4 ho4 hg4 hat4 _; have K4h := Lib.hid (PU.out v2 w4 a2 c2 g4 cap4 _ BV.out nn2.out hp2.out ho4 hg4 hat4); clear ho4 hg4 hat4)
      go_roundw
      case rel => exact ⟨j + 1, _, by go_num, by omega, K4h⟩
      case measure => simp [intOf]; omega
    · obtain rfl : j = n := by omega
      have jI : ¬ (j : Int) < (j : Int) := by omega
      have hT : LE.take j = LE := List.take_of_length_le (Nat.le_of_eq HN.out.symm)
      have R9 : Hid (EvA w.heap.size wr LE (.slice va j vc) cs ∧ Below w.heap.size w wr) := Lib.hid (by have := hR.out; rw [hT] at this; exact this)
      have F9 : Hid (Elst w LE (.returned (.slice va j vc)) wr) := Lib.hid ⟨va, vc, by rw [← HN.out], R9.out.1.evs, R9.out.2⟩
      clear hR O1 R9
      generalize Elst w LE = Q at *
      go_wp2_with fail
      (try go_ret)
      exact F9.out
end Go.Proofs.Ytbghjcfepjbppaa
/-
  A READER IS TOLD: Told; Late.
-/
namespace Go.Proofs.Ytbghjcfepjbppaa
open Go.RowKit
section
variable {w : World} {U : Nat → Prop} {t : Nat} {nodes to : Int} {nm : ByteArray} {most at_ gone : Int} {LG : List (Int × List Int)}
theorem rch_put {w' : World} {to' at' gone' : Int} (h : RdM w U t nodes to nm most at_ gone LG) (k : ∀ gv, Blk w t 119 (rdr nodes to nm most at_ gone gv) → Blk w' t 119 (rdr nodes to' nm most at' gone' gv)) (f : Fr w w' (fun q => q = t)) : Rch w U t nodes to' nm most at' gone' LG w' := by
  obtain ⟨gv, cs, A⟩ := h
  exact ⟨U, ⟨gv, cs, A.put (k gv A.blk) f⟩, f.mono (fun q _ e => by subst e; exact A.ut), fun q hq => .inl hq⟩
theorem rlate_ch (h : RdM w U t nodes to nm most at_ gone LG) (ht : 0 ≤ to ∧ to ≤ 100) (hn : nodes ≤ 100) :
    Calls Try.prog 22 #[.pointer (some ⟨t, 0, none⟩)] w fun e w' => e = .returned (.tuple #[]) ∧ Rch w U t nodes (nextN to nodes) nm most at_ gone LG w' := by
  obtain ⟨gv, cs, A⟩ := h
  exact (rlate_any A.blk ht hn).mono fun e w' ⟨he, T, f⟩ => ⟨he, U, ⟨gv, cs, A.put T f⟩, f.mono (fun q _ e => by subst e; exact A.ut), fun q hq => .inl hq⟩
set_option maxHeartbeats 2000000 in
set_option maxRecDepth 100000 in
theorem told_take {a : Option Addr} {LL : List (List Int)} (c : Nat) (n : Int)
    (h : RdM w U t nodes to nm most at_ gone LG) (RW : ∀ w', Fr w w' U → Bk.Rws w' a LL) (hS : Small LL) (hl : LL.length ≤ 20) (hg : LG.length ≤ 5000) (ha : 0 ≤ at_) (hn : n ≤ 9223372036854775807) (h1 : n - at_ = (LL.length : Int)) :
    Calls Try.prog 21 #[.pointer (some ⟨t, 0, none⟩), .slice a LL.length c, .int .i64 n, .int .i64 0] w fun e w' => e = .returned (.tuple #[]) ∧ Rch w U t nodes to nm most n gone (LG ++ numb at_ LL) w' := by
  have TK := Lib.hid (take_any c h RW hS hl hg ⟨ha, by omega⟩)
  rw [show at_ + (LL.length : Int) = n by omega] at TK
  obtain ⟨gv, cs, A⟩ := h
  have AH := Lib.hid (ahead_any A.blk n ha hn)
  rw [show aheadN at_ n = (LL.length : Int) by unfold aheadN; rw [if_neg (by omega)]; exact h1] at AH
  clear A RW hS
  generalize Rch w U t nodes to nm most n gone (LG ++ numb at_ LL) = Q at *
  generalize LL.length = m at *
  go_enter Try.func21, Try.ntmps21
  go_wp2_with fail
  refine AH.out.mono ?_
  rintro e w1 ⟨rfl, rfl⟩
  go_wp2_with fail
  refine TK.out.mono ?_
  rintro e w2 ⟨rfl, q2⟩
  have q2 := Lib.hid q2
  go_wp2_with fail
  go_end0
  exact ⟨rfl, q2.out⟩
set_option maxHeartbeats 2000000 in
set_option maxRecDepth 100000 in
theorem told_gone {a : Option Addr} {m : Nat} (c : Nat) (n : Int) (h : RdM w U t nodes to nm most at_ gone LG) (ha : 0 ≤ at_ ∧ 0 ≤ gone ∧ gone ≤ at_) (hn : n ≤ 9223372036854775807) (h1 : at_ < n) :
    Calls Try.prog 21 #[.pointer (some ⟨t, 0, none⟩), .slice a m c, .int .i64 n, .int .i64 180] w fun e w' => e = .returned (.tuple #[]) ∧ Rch w U t nodes to nm most n (gone + (n - at_)) LG w' := by
  have FIN := Lib.hid (fun (w' : World) => rch_put (w' := w') (to' := to) (at' := n) (gone' := gone + (n - at_)) h)
  obtain ⟨gv, cs, A⟩ := h
  have AH := Lib.hid (ahead_any A.blk n ha.1 hn)
  have AD := Lib.hid (ahead_any (w := w.drew) (show Blk w.drew t 119 _ from A.blk) n ha.1 hn)
  rw [show aheadN at_ n = n - at_ by unfold aheadN; rw [if_neg (by omega)]] at AH AD
  obtain ⟨ha0, ha1, ha2⟩ := ha
  have hp : decide (0 < n - at_) = true := by simp; omega
  have hw : wrap64 (gone + (n - at_)) = gone + (n - at_) := by unfold wrap64; omega
  have c5 : w.drew.cell? ⟨t, 5, none⟩ = some (.int .i64 gone) := A.blk.cell 5
  have c4 : w.drew.cell? ⟨t, 4, none⟩ = some (.int .i64 at_) := A.blk.cell 4
  have fz : ∀ i, w.drew.frozen? ⟨t, i, none⟩ = false := A.blk.free
  have fz0 : ∀ i, w.frozen? ⟨t, i, none⟩ = false := A.blk.free
  have c40 : w.cell? ⟨t, 4, none⟩ = some (.int .i64 at_) := A.blk.cell 4
  have F9 := Lib.hid (FIN.out ((w.drew.setCell ⟨t, 5, none⟩ (.int .i64 (gone + (n - at_)))).setCell ⟨t, 4, none⟩ (.int .i64 n)) (fun gv T => (show Blk w.drew t 119 _ from T).set 5 _ |>.set 4 _) (((fr_drew w (fun q => q = t)).set t 5 _ (.inl rfl)).set t 4 _ (.inl rfl)))
  clear A FIN
  generalize Rch w U t nodes to nm most n (gone + (n - at_)) LG = Q at *
  go_enter Try.func21, Try.ntmps21
  go_wp2_with fail
  refine AH.out.mono ?_
  rintro e w1 ⟨rfl, rfl⟩
  go_wp2_with fail
  go_region_law (go_simp; go_at_call 54; refine AD.out.mono ?_; rintro r9 v2 ⟨rfl, rfl⟩)
  all_goals (
    go_wp2_with fail
    go_end0
    exact ⟨rfl, F9.out⟩)
set_option maxHeartbeats 2000000 in
set_option maxRecDepth 100000 in
theorem told_next {a : Option Addr} {m : Nat} (c : Nat) (n e : Int) (h : RdM w U t nodes to nm most at_ gone LG) (ht : 0 ≤ to ∧ to ≤ 100) (hno : nodes ≤ 100) (ha : 0 ≤ at_) (hn : n ≤ 9223372036854775807)
    (h0 : e = 0 → ¬ (at_ ≤ n ∧ n - at_ = (m : Int))) (h1 : e = 180 → ¬ at_ < n) :
    Calls Try.prog 21 #[.pointer (some ⟨t, 0, none⟩), .slice a m c, .int .i64 n, .int .i64 e] w fun e w' => e = .returned (.tuple #[]) ∧ Rch w U t nodes (nextN to nodes) nm most at_ gone LG w' := by
  have FIN := Lib.hid (fun (w' : World) => rch_put (w' := w') (to' := nextN to nodes) (at' := at_) (gone' := gone) h)
  obtain ⟨gv, cs, A⟩ := h
  have AH := Lib.hid (ahead_any A.blk n ha hn)
  have NX := Lib.hid (next_any A.blk rfl rfl ht hno)
  have F9 := Lib.hid (fun (w1 : World) (T : Blk w1 t 119 (rdr nodes (nextN to nodes) nm most at_ gone gv)) (f : Fr w w1 (fun q => q = t)) => show Rch w U t nodes (nextN to nodes) nm most at_ gone LG w1 from ⟨U, ⟨gv, cs, A.put T f⟩, f.mono (fun q _ e => by subst e; exact A.ut), fun q hq => .inl hq⟩)
  clear A FIN
  by_cases he : e = 0
  · subst he
    have hq : (aheadN at_ n == (m : Int)) = false := by
      have := h0 rfl
      unfold aheadN
      rw [beq_eq_false_iff_ne]
      split <;> omega
    generalize aheadN at_ n = z at *
    clear h0 h1
    generalize Rch w U t nodes (nextN to nodes) nm most at_ gone LG = Q at *
    go_enter Try.func21, Try.ntmps21
    go_wp2_with fail
    refine AH.out.mono ?_
    rintro e w1 ⟨rfl, rfl⟩
    go_wp2_with fail
    refine NX.out.mono ?_
    rintro e w2 ⟨rfl, T2, f2⟩
    have q2 := Lib.hid (F9.out _ T2 f2)
    clear T2 f2
    go_wp2_with fail
    go_end0
    exact ⟨rfl, q2.out⟩
  · have he0 : (e == 0) = false := by rw [beq_eq_false_iff_ne]; exact he
    by_cases he1 : e = 180
    · subst he1
      have hq : decide (0 < aheadN at_ n) = false := by
        have := h1 rfl
        unfold aheadN
        rw [decide_eq_false_iff_not]
        split <;> omega
      generalize aheadN at_ n = z at *
      clear h0 h1 he he0
      generalize Rch w U t nodes (nextN to nodes) nm most at_ gone LG = Q at *
      go_enter Try.func21, Try.ntmps21
      go_wp2_with fail
      refine AH.out.mono ?_
      rintro e w1 ⟨rfl, rfl⟩
      go_wp2_with fail
      refine NX.out.mono ?_
      rintro e w2 ⟨rfl, T2, f2⟩
      have q2 := Lib.hid (F9.out _ T2 f2)
      clear T2 f2
      go_wp2_with fail
      go_end0
      exact ⟨rfl, q2.out⟩
    · have he2 : (e == 180) = false := by rw [beq_eq_false_iff_ne]; exact he1
      clear h0 h1 he he1
      generalize Rch w U t nodes (nextN to nodes) nm most at_ gone LG = Q at *
      go_enter Try.func21, Try.ntmps21
      go_wp2_with fail
      refine NX.out.mono ?_
      rintro e w2 ⟨rfl, T2, f2⟩
      have q2 := Lib.hid (F9.out _ T2 f2)
      clear T2 f2
      go_wp2_with fail
      go_end0
      exact ⟨rfl, q2.out⟩
end
end Go.Proofs.Ytbghjcfepjbppaa
/-
  THE DOCUMENT's READER: next; lists with the blocks they lie in; Rows.
-/
namespace Go.Proofs.Ytbghjcfepjbppaa
open Go.RowKit
theorem rnext_any (to nodes : Int) (w : World) (ht : 0 ≤ to ∧ to ≤ 100) : Calls Try.prog 48 #[.int .i64 to, .int .i64 nodes] w fun e w' => e = .returned (.int .i64 (nextN to nodes)) ∧ w = w' := by
  have hw : wrap64 (to + 1) = to + 1 := by unfold wrap64; omega
  unfold nextN
  by_cases h : to + 1 < nodes
  · rw [if_pos h]
    have hd : decide (to + 1 < nodes) = true := by simp; omega
    go_enter Try.func48, Try.ntmps48
    go_wp2_with fail
    go_ret
    exact ⟨rfl, rfl⟩
  · rw [if_neg h]
    have hd : decide (to + 1 < nodes) = false := by simp; omega
    go_enter Try.func48, Try.ntmps48
    go_wp2_with fail
    go_ret
    exact ⟨rfl, rfl⟩
/-- numbers in the blocks V -/
def NumsD (w : World) (V : Nat → Prop) (a : Option Addr) (xs : List Int) : Prop := Bk.Nums w a xs ∧ ∀ p, a = some p → xs ≠ [] → V p.block
/-- rows of numbers in the blocks V -/
def RwsD (w : World) (V : Nat → Prop) (a : Option Addr) (LL : List (List Int)) : Prop := ∀ i (h : i < LL.length), ∃ g o q c, a = some ⟨g, o, none⟩ ∧ g < w.heap.size ∧ V g ∧ w.cell? ⟨g, o + i, none⟩ = some (.slice q LL[i].length c) ∧ NumsD w V q LL[i]
section
variable {w w' : World} {V P : Nat → Prop} {a : Option Addr} {xs : List Int} {LL : List (List Int)}
theorem NumsD.fr (h : NumsD w V a xs) (f : Fr w w' P) (hP : ∀ q, V q → ¬ P q) : NumsD w' V a xs := ⟨fun i hi => by
  obtain ⟨g, o, e, hl, c⟩ := h.1 i hi
  have hv := h.2 _ e (fun e0 => by rw [e0] at hi; simp at hi)
  exact ⟨g, o, e, Nat.lt_of_lt_of_le hl f.size, f.cell hl (hP _ hv) c⟩, h.2⟩
theorem NumsD.mono {V' : Nat → Prop} (h : NumsD w V a xs) (hV : ∀ q, V q → V' q) : NumsD w V' a xs := ⟨h.1, fun p e hx => hV _ (h.2 p e hx)⟩
theorem RwsD.fr (h : RwsD w V a LL) (f : Fr w w' P) (hP : ∀ q, V q → ¬ P q) : RwsD w' V a LL := fun i hi => by
  obtain ⟨g, o, q, c, e, hl, hv, ck, nn⟩ := h i hi
  exact ⟨g, o, q, c, e, Nat.lt_of_lt_of_le hl f.size, hv, f.cell hl (hP _ hv) ck, nn.fr f hP⟩
theorem RwsD.mono {V' : Nat → Prop} (h : RwsD w V a LL) (hV : ∀ q, V q → V' q) : RwsD w V' a LL := fun i hi => by
  obtain ⟨g, o, q, c, e, hl, hv, ck, nn⟩ := h i hi
  exact ⟨g, o, q, c, e, hl, hV _ hv, ck, nn.mono hV⟩
theorem RwsD.next (h : RwsD w V a LL) (b : Below w.heap.size w w') : RwsD w' V a LL := h.fr (P := fun _ => False) (Fr.of_below b _) (fun _ _ hf => hf)
theorem NumsD.next (h : NumsD w V a xs) (b : Below w.heap.size w w') : NumsD w' V a xs := h.fr (P := fun _ => False) (Fr.of_below b _) (fun _ _ hf => hf)
theorem RwsD.rws (h : RwsD w V a LL) : Bk.Rws w a LL := fun i hi => by
  obtain ⟨g, o, q, c, e, hl, hv, ck, nn⟩ := h i hi
  exact ⟨g, o, q, c, e, hl, ck, nn.1⟩
theorem rwsD_nil (w : World) (V : Nat → Prop) (a : Option Addr) : RwsD w V a [] := fun i hi => by simp at hi
theorem numsD_nil (w : World) (V : Nat → Prop) (a : Option Addr) : NumsD w V a [] := ⟨fun i hi => by simp at hi, fun _ _ h => absurd rfl h⟩
end
/-- rows' cells, their numbers in the blocks V -/
def CelD (w : World) (V : Nat → Prop) (cs : List Value) (LL : List (List Int)) : Prop := cs.length = LL.length ∧ ∀ (i : Nat) (_h : i < cs.length) (h2 : i < LL.length), ∃ q c, cs[i]? = some (.slice q LL[i].length c) ∧ NumsD w V q LL[i]
section
variable {w w' : World} {V : Nat → Prop} {cs : List Value} {LL : List (List Int)}
theorem celD_nil (w : World) (V : Nat → Prop) : CelD w V [] [] := ⟨rfl, fun i h => by simp at h⟩
theorem CelD.fr {P : Nat → Prop} (h : CelD w V cs LL) (f : Fr w w' P) (hP : ∀ q, V q → ¬ P q) : CelD w' V cs LL := ⟨h.1, fun i a b => by
  obtain ⟨q, c, e, nn⟩ := h.2 i a b
  exact ⟨q, c, e, nn.fr f hP⟩⟩
theorem CelD.snoc {q : Option Addr} {c : Nat} {xs : List Int} (h : CelD w V cs LL) (hn : NumsD w V q xs) : CelD w V (cs ++ [.slice q xs.length c]) (LL ++ [xs]) := ⟨by simp [h.1], fun i a b => by
  have := h.1
  rcases Nat.lt_or_ge i cs.length with hi | hi
  · rw [List.getElem?_append_left hi, List.getElem_append_left (by omega)]
    exact h.2 i hi (by omega)
  · simp only [List.length_append, List.length_cons, List.length_nil] at a b
    obtain rfl : i = cs.length := by omega
    rw [List.getElem?_append_right (Nat.le_refl _), List.getElem_append_right (by omega)]
    simp only [this, Nat.sub_self, List.getElem_cons_zero]
    exact ⟨q, c, rfl, hn⟩⟩
theorem CelD.rws {V' : Nat → Prop} {B : Nat} {a : Option Addr} {n c : Nat} (h : CelD w V cs LL) (ho : w.ownsRow B 55 1 (.slice a n c) LL.length cs) (hV : ∀ q, V q → V' q) (hB : ∀ q, B ≤ q → V' q) : RwsD w V' a LL := by
  intro i hi
  have hl := h.1
  obtain ⟨q, cq, e, nn⟩ := h.2 i (by omega) hi
  have h0 := ho
  rcases ho.2 with ⟨_, e3⟩ | ⟨g, cap, cur, e3, hb, hg, _⟩
  · omega
  · obtain ⟨rfl, rfl, rfl⟩ : a = some ⟨g, 0, none⟩ ∧ n = LL.length ∧ c = cap := by
      simp only [Value.slice.injEq] at e3; exact e3
    refine ⟨g, 0, q, cq, rfl, (Array.getElem?_eq_some_iff.1 hg).1, hB _ hb, ?_, nn.mono hV⟩
    rw [Nat.zero_add, h0.cellAt _ (by omega), e]
end
theorem info55 : (Try.prog.info? 55).map (fun i => (i.zero, i.size, i.bytes)) = some (some (.slice none 0 0), 1, 24) := by kernel_rfl
theorem one_sl (a : Option Addr) (m c : Nat) : ∀ u ∈ ([.slice a m c] : List Value), u.oneCell' = true := by
  intro u hu
  rw [List.mem_singleton.1 hu]; rfl
/-- what Rows leaves -/
def RowD (w : World) (V : Nat → Prop) (LL : List (List Int)) (e : Ending) (w' : World) : Prop := ∃ a' c', e = .returned (.slice a' LL.length c') ∧ RwsD w' (fun q => V q ∨ w.heap.size ≤ q) a' LL ∧ Below w.heap.size w w'
/-- one row more, of rows that the call made -/
structure RoA (w0 w : World) (V : Nat → Prop) (LL : List (List Int)) (v : Value) (cs : List Value) : Prop where
  own : w.ownsRow w0.heap.size 55 1 v LL.length cs
  cel : CelD w V cs LL
  b : Below w0.heap.size w0 w
theorem RoA.push {w0 w w4 : World} {V : Nat → Prop} {LL : List (List Int)} {v v' : Value} {cs : List Value} {q : Option Addr} {c : Nat} {xs : List Int} (o : Obj) (hV : ∀ q, V q → q < w0.heap.size) (h : RoA w0 w V LL v cs) (hn : NumsD w V q xs)
    (ho : w4.ownsRow w0.heap.size 55 1 v' (LL.length + 1) (cs ++ [.slice q xs.length c])) (hg : (w.alloc o).grownBy w4 v.ownBlock) : RoA w0 w4 V (LL ++ [xs]) v' (cs ++ [.slice q xs.length c]) := by
  have hb := h.b.size
  have f : Fr w w4 (fun q => v.ownBlock = some q) := ((Fr.refl w _).al o).on ((Fr.of_grown hg).mono (fun q _ h => h.symm))
  have hP : ∀ q, V q → ¬ v.ownBlock = some q := fun q hq e => by
    have := (World.ownsRow.lt h.own q e).1
    have := hV q hq
    omega
  refine ⟨by rw [List.length_append]; exact ho, (h.cel.fr f hP).snoc (hn.fr f hP), h.b.trans (f.below (fun q hq => (World.ownsRow.lt h.own q hq).1) hb)⟩
set_option maxHeartbeats 4000000 in
set_option maxRecDepth 100000 in
theorem rowsD_any {w : World} {V : Nat → Prop} {a : Option Addr} {LL : List (List Int)} (c : Nat) (h : RwsD w V a LL) (hV : ∀ q, V q → q < w.heap.size) (hl : LL.length ≤ 1000) :
    Calls Try.prog 20 #[.slice a LL.length c] w (RowD w V LL) := by
  obtain ⟨i55, hi, hz0, hz1, hz2⟩ := info_parts info55
  have R0 : Hid (RoA w w V [] (.slice none 0 0) []) := Lib.hid ⟨World.ownsRow_nil _ _ _ _, celD_nil _ _, Below.refl _ _⟩
  have SRC := Lib.hid (fun (wr : World) (b : Below w.heap.size w wr) => h.next b)
  obtain ⟨n, hn⟩ : ∃ n, n = LL.length := ⟨_, rfl⟩
  have HN := Lib.hid hn
  have Q9 : Hid (∀ wr va vc cs, RoA w wr V LL (.slice va n vc) cs → RowD w V LL (.returned (.slice va n vc)) wr) := Lib.hid (fun wr va vc cs k => ⟨va, vc, by rw [hn], k.cel.rws k.own (fun _ hq => .inl hq) (fun _ hq => .inr hq), k.b⟩)
  rw [← hn] at hl ⊢
  have hVh := Lib.hid hV
  have hlI : (n : Int) ≤ 1000 := by omega
  generalize RowD w V LL = Q at *
  clear h hV hn
  go_enter Try.func20, Try.ntmps20
  go_wp2_with fail
  go_loopw [3, 4] (fun v i wr => ∃ (j : Nat) (cs : List Value), i = .int .i64 j ∧ j ≤ n ∧ Hid (RoA w wr V (LL.take j) v cs))
    (fun v i wr => n - (intOf i).toNat)
  case atStart => exact ⟨0, [], rfl, Nat.zero_le _, R0⟩
  case round =>
    obtain ⟨j, cs, rfl, hj, hR⟩ := hrel
    clear R0
    have ljn : (LL.take j).length = j := by rw [List.length_take, Nat.min_eq_left (by rw [← HN.out]; exact hj)]
    have O1 := hR.out.own
    rw [ljn] at O1
    obtain ⟨va, vc, rfl⟩ := own_slice O1
    by_cases hjn : j < n
    · have jI : (j : Int) < (n : Int) := by omega
      have jB := decide_eq_true jI
      have hjL : j < LL.length := by rw [← HN.out]; exact hjn
      obtain ⟨x, hx⟩ : ∃ x, x = LL[j]'hjL := ⟨_, rfl⟩
      have hTk : LL.take (j + 1) = LL.take j ++ [x] := by rw [hx]; exact List.take_succ_eq_append_getElem hjL
      obtain ⟨g, o, q, cq, rfl, hgs, hgv, ck, nn⟩ := SRC.out wr hR.out.b j hjL
      rw [← hx] at ck nn
      have PU := Lib.hid (fun (w4 : World) (v' : Value) (o : Obj) ho hg => hR.out.push (w4 := w4) (v' := v') (c := cq) o hVh.out nn ho hg)
      rw [ljn, ← hTk] at PU
      have OW := Lib.hid O1
      have hbs := hR.out.b.size
      clear hR O1 nn hgs hgv hTk hx
      generalize x.length = m at *
      go_wp2_with (at_builtin; refine wpList_append_own _ rfl _ _ 56 rfl w.heap.size 55 i55 (.slice none 0 0) 1 24 Try.underlying56 hi hz0 hz1 hz2 rfl (by decide) (.slice va j vc) j cs rfl (OW.out.alloc _) ⟨wr.heap.size, 0, none⟩ 1 1 [.slice q m cq] rfl rfl (World.news_of_block (cs := #[.slice q m cq]) (heap_alloc_new wr _)) (one_sl q m cq) (by unfold maxLen; omega) (by omega) (by simp; omega) ?_; intro v' w3 ho hg2 _; have K4h := Lib.hid (PU.out w3 v' _ ho hg2); clear ho hg2)
      go_roundw
      case rel => exact ⟨j + 1, _, by go_num, by omega, K4h⟩
      case measure => simp [intOf]; omega
    · obtain rfl : j = n := by omega
      have jI : ¬ (j : Int) < (j : Int) := by omega
      have hT : LL.take j = LL := List.take_of_length_le (Nat.le_of_eq HN.out.symm)
      have F9 : Hid (Q (.returned (.slice va j vc)) wr) := Lib.hid (Q9.out wr va vc cs (by have := hR.out; rw [hT] at this; exact this))
      clear hR O1
      go_wp2_with fail
      (try go_ret)
      exact F9.out
end Go.Proofs.Ytbghjcfepjbppaa
/-
  THE DOCUMENT's TELLER: Late; put.
-/
namespace Go.Proofs.Ytbghjcfepjbppaa
open Go.RowKit
theorem info42 : (Try.prog.info? 42).map (fun i => (i.zero, i.size, i.bytes)) = some (some (.agg #[.int .i64 0, .int .i64 0, .int .i64 0, .string ⟨#[]⟩, .slice none 0 0]), 5, 64) := by kernel_rfl
/-- the document's teller -/
def dtel (nodes to id sq : Int) (wv rv : Value) : Value := .agg #[.int .i64 nodes, .int .i64 to, .int .i64 id, .int .i64 sq, wv, rv]
theorem dlate_any (nodes to id sq : Int) (wa ra : Option Addr) (wn wc rn rc : Nat) (w : World) (ht : 0 ≤ to ∧ to ≤ 100) :
    Calls Try.prog 14 #[dtel nodes to id sq (.slice wa wn wc) (.slice ra rn rc)] w fun e w' => e = .returned (dtel nodes (nextN to nodes) id sq (.slice wa wn wc) (.slice ra rn rc)) ∧ Below w.heap.size w w' := by
  have NX := Lib.hid (fun W => rnext_any to nodes W ht)
  unfold dtel
  go_enter Try.func14, Try.ntmps14
  go_wp2_with fail
  refine (NX.out _).mono ?_
  rintro e w1 ⟨rfl, rfl⟩
  go_wp2_with fail
  refine bodyPost_ret (by simp [results, Try.results14, go_sem]; try rfl) rfl ?_
  exact ⟨rfl, ((Below.refl w.heap.size w).alloc (Nat.le_refl _) _).alloc (by simp) _⟩
/-- an event's five cells -/
structure E6 where
  a : Int
  b : Int
  c : Int
  k : ByteArray
  q : Option Addr
  m : Nat
  cp : Nat
def E6.cells (x : E6) : List Value := encE x.a x.b x.c x.k (.slice x.q x.m x.cp)
def E6.val (x : E6) : Value := .agg #[.int .i64 x.a, .int .i64 x.b, .int .i64 x.c, .string x.k, .slice x.q x.m x.cp]
def cells6 (E : List E6) : List Value := E.flatMap E6.cells
theorem cells6_snoc (E : List E6) (x : E6) : cells6 (E ++ [x]) = cells6 E ++ x.cells := by unfold cells6; rw [List.flatMap_append]; simp
/-- events that can be read -/
def Row6 (w : World) (a : Option Addr) (E : List E6) : Prop := ∀ i (h : i < E.length), ∃ g o, a = some ⟨g, o, none⟩ ∧ g < w.heap.size ∧ ∀ j, j < 5 → w.cell? ⟨g, o + i * 5 + j, none⟩ = (E[i].cells)[j]?
theorem Row6.next {w w' : World} {a : Option Addr} {E : List E6} (h : Row6 w a E) (b : Below w.heap.size w w') : Row6 w' a E := fun i hi => by
  obtain ⟨g, o, e, hg, e5⟩ := h i hi
  exact ⟨g, o, e, Nat.lt_of_lt_of_le hg b.size, fun j hj => (b.cell (p := ⟨g, _, none⟩) hg).trans (e5 j hj)⟩
/-- what put answers -/
def PutR (w : World) (E : List E6) (e : Ending) (w' : World) : Prop := ∃ v', e = .returned v' ∧ w'.ownsRow w.heap.size 42 5 v' E.length (cells6 E) ∧ Below w.heap.size w w'
set_option maxHeartbeats 4000000 in
set_option maxRecDepth 100000 in
theorem put_any {w : World} {a : Option Addr} {c : Nat} {E : List E6} (x : E6) (h : Row6 w a E) (hl : E.length ≤ 5000) : Calls Try.prog 40 #[.slice a E.length c, x.val] w (PutR w (E ++ [x])) := by
  obtain ⟨i42, hi, hz0, hz1, hz2⟩ := info_parts info42
  have hx1 : x.cells = encE x.a x.b x.c x.k (.slice x.q x.m x.cp) := rfl
  obtain ⟨V, hV, KV, BV, sV⟩ : ∃ V, V = w.alloc (.cells #[.int .i64 x.a, .int .i64 x.b, .int .i64 x.c, .string x.k, .slice x.q x.m x.cp] 42) ∧ Blk V w.heap.size 42 #[.int .i64 x.a, .int .i64 x.b, .int .i64 x.c, .string x.k, .slice x.q x.m x.cp] ∧ Below w.heap.size w V ∧ V.heap.size = w.heap.size + 1 := ⟨_, rfl, Blk.new _ _ _, (Below.refl _ _).alloc (Nat.le_refl _) _, by simp⟩
  have VH := Lib.hid hV
  have SRC := Lib.hid (fun (wr : World) (b : Below w.heap.size w wr) => h.next b)
  have FIN := Lib.hid (fun (w4 : World) (v' : Value) (ho : w4.ownsRow (w.heap.size + 1) 42 5 v' (E.length + 1) (cells6 E ++ encE x.a x.b x.c x.k (.slice x.q x.m x.cp))) (b : Below w.heap.size w w4) => show PutR w (E ++ [x]) (.returned v') w4 from
    ⟨v', rfl, by rw [List.length_append, cells6_snoc]; exact ownsRow_dn ho (Nat.le_succ _), b⟩)
  have R0 : Hid (V.ownsRow (w.heap.size + 1) 42 5 (.slice none 0 0) 0 (cells6 (E.take 0)) ∧ Below w.heap.size w V ∧ Blk V w.heap.size 42 #[.int .i64 x.a, .int .i64 x.b, .int .i64 x.c, .string x.k, .slice x.q x.m x.cp]) := Lib.hid ⟨World.ownsRow_nil _ _ _ _, BV, KV⟩
  obtain ⟨n, hn⟩ : ∃ n, n = E.length := ⟨_, rfl⟩
  have HN := Lib.hid hn
  rw [← hn] at hl FIN ⊢
  have hlI : (n : Int) ≤ 5000 := by omega
  clear h hn hV KV BV hx1
  unfold E6.val
  generalize PutR w (E ++ [x]) = Q at *
  obtain ⟨xa, xb, xc, xk, xq, xm, xp⟩ := x
  simp only at *
  go_enter Try.func40, Try.ntmps40
  go_wp2_with fail
  rw [← VH.out]
  go_loopw [5, 6] (fun v i wr => ∃ (j : Nat), i = .int .i64 j ∧ j ≤ n ∧ Hid (wr.ownsRow (w.heap.size + 1) 42 5 v j (cells6 (E.take j)) ∧ Below w.heap.size w wr ∧ Blk wr w.heap.size 42 #[.int .i64 xa, .int .i64 xb, .int .i64 xc, .string xk, .slice xq xm xp]))
    (fun v i wr => n - (intOf i).toNat)
  case atStart => exact ⟨0, rfl, Nat.zero_le _, R0⟩
  case round =>
    obtain ⟨j, rfl, hj, hR⟩ := hrel
    clear R0
    have O1 := hR.out.1
    obtain ⟨va, vc, rfl⟩ := own_slice O1
    have hbs : w.heap.size + 1 ≤ wr.heap.size := hR.out.2.2.lt
    by_cases hjn : j < n
    · have jI : (j : Int) < (n : Int) := by omega
      have jB := decide_eq_true jI
      have hjL : j < E.length := by rw [← HN.out]; exact hjn
      obtain ⟨y, hy⟩ : ∃ y, y = E[j]'hjL := ⟨_, rfl⟩
      have hTk : cells6 (E.take (j + 1)) = cells6 (E.take j) ++ y.cells := by rw [hy, List.take_succ_eq_append_getElem hjL, cells6_snoc]
      obtain ⟨g0, o0, rfl, hg0, ce⟩ := SRC.out wr hR.out.2.1 j hjL
      rw [← hy] at ce
      obtain ⟨ya, yb, yc, yk, yq, ym, yp⟩ := y
      have r0 : wr.cell? ⟨g0, o0 + j * 5, none⟩ = some (.int .i64 ya) := ce 0 (by decide)
      have r1 : wr.cell? ⟨g0, o0 + j * 5 + 1, none⟩ = some (.int .i64 yb) := ce 1 (by decide)
      have r2 : wr.cell? ⟨g0, o0 + j * 5 + 2, none⟩ = some (.int .i64 yc) := ce 2 (by decide)
      have r3 : wr.cell? ⟨g0, o0 + j * 5 + 3, none⟩ = some (.string yk) := ce 3 (by decide)
      have r4 : wr.cell? ⟨g0, o0 + j * 5 + 4, none⟩ = some (.slice yq ym yp) := ce 4 (by decide)
      have PU : Hid (∀ (w4 : World) (g cap : Nat) (o : Obj), w4.ownsRow (w.heap.size + 1) 42 5 (.slice (some ⟨g, 0, none⟩) (j + 1) cap) (j + 1) (cells6 (E.take j) ++ encE ya yb yc yk (.slice yq ym yp)) → (wr.alloc o).grownBy w4 (Value.slice va j vc).ownBlock →
          w4.ownsRow (w.heap.size + 1) 42 5 (.slice (some ⟨g, 0, none⟩) (j + 1) cap) (j + 1) (cells6 (E.take (j + 1))) ∧ Below w.heap.size w w4 ∧ Blk w4 w.heap.size 42 #[.int .i64 xa, .int .i64 xb, .int .i64 xc, .string xk, .slice xq xm xp]) := Lib.hid (by
        intro w4 g cap o ho hg
        have f : Fr wr w4 (fun q => (Value.slice va j vc).ownBlock = some q) := ((Fr.refl wr _).al o).on ((Fr.of_grown hg).mono (fun q _ h => h.symm))
        have lo : ∀ q, (Value.slice va j vc).ownBlock = some q → w.heap.size + 1 ≤ q := fun q hq => (World.ownsRow.lt O1 q hq).1
        exact ⟨by rw [hTk]; exact ho, hR.out.2.1.trans (f.below (fun q hq => by have := lo q hq; omega) (by omega)), hR.out.2.2.fr f (fun e => by have := lo _ e; omega)⟩)
      have OW := Lib.hid O1
      clear hR O1 hTk hy ce
      go_wp2_with (at_builtin; refine wpList_append_lies _ rfl (.tmp 13) (.tmp 18) 26 rfl (w.heap.size + 1) 42 i42 (.agg #[.int .i64 0, .int .i64 0, .int .i64 0, .string ⟨#[]⟩, .slice none 0 0]) 5 64 Try.underlying26 hi hz0 hz1 hz2 rfl (by decide) (.slice va j vc) j (cells6 (E.take j)) rfl (World.ownsRow.alloc OW.out _) ⟨wr.heap.size, 0, none⟩ 1 1 (encE ya yb yc yk (.slice yq ym yp)) rfl rfl (World.news_of_block (cs := #[.int .i64 ya, .int .i64 yb, .int .i64 yc, .string yk, .slice yq ym yp]) (heap_alloc_new wr _)) (one_encE ya yb yc yk yq ym yp) (by decide) (by unfold maxLen; omega) (by omega) (by simp; omega) _ rfl ?_; intro g4 cap4 w4 ho4 hg4 hat4 _; have K4h := Lib.hid (PU.out w4 g4 cap4 _ ho4 hg4); clear ho4 hg4 hat4)
      go_roundw
      case rel => exact ⟨j + 1, by go_num, by omega, K4h⟩
      case measure => simp [intOf]; omega
    · obtain rfl : j = n := by omega
      have jI : ¬ (j : Int) < (j : Int) := by omega
      have hT : E.take j = E := List.take_of_length_le (Nat.le_of_eq HN.out.symm)
      have K := hR.out.2.2
      have r0 : wr.cell? ⟨w.heap.size, 0, none⟩ = some (.int .i64 xa) := K.cell 0
      have r1 : wr.cell? ⟨w.heap.size, 1, none⟩ = some (.int .i64 xb) := K.cell 1
      have r2 : wr.cell? ⟨w.heap.size, 2, none⟩ = some (.int .i64 xc) := K.cell 2
      have r3 : wr.cell? ⟨w.heap.size, 3, none⟩ = some (.string xk) := K.cell 3
      have r4 : wr.cell? ⟨w.heap.size, 4, none⟩ = some (.slice xq xm xp) := K.cell 4
      rw [hT] at O1
      have PF : Hid (∀ (w4 : World) (g cap : Nat) (o : Obj), w4.ownsRow (w.heap.size + 1) 42 5 (.slice (some ⟨g, 0, none⟩) (j + 1) cap) (j + 1) (cells6 E ++ encE xa xb xc xk (.slice xq xm xp)) → (wr.alloc o).grownBy w4 (Value.slice va j vc).ownBlock → Q (.returned (.slice (some ⟨g, 0, none⟩) (j + 1) cap)) w4) := Lib.hid (by
        intro w4 g cap o ho hg
        have f : Fr wr w4 (fun q => (Value.slice va j vc).ownBlock = some q) := ((Fr.refl wr _).al o).on ((Fr.of_grown hg).mono (fun q _ h => h.symm))
        have lo : ∀ q, (Value.slice va j vc).ownBlock = some q → w.heap.size + 1 ≤ q := fun q hq => (World.ownsRow.lt O1 q hq).1
        exact FIN.out w4 _ ho (hR.out.2.1.trans (f.below (fun q hq => by have := lo q hq; omega) (by omega))))
      have OW := Lib.hid O1
      clear hR O1 K FIN
      go_wp2_with (at_builtin; refine wpList_append_lies _ rfl (.tmp 20) (.tmp 22) 26 rfl (w.heap.size + 1) 42 i42 (.agg #[.int .i64 0, .int .i64 0, .int .i64 0, .string ⟨#[]⟩, .slice none 0 0]) 5 64 Try.underlying26 hi hz0 hz1 hz2 rfl (by decide) (.slice va j vc) j (cells6 E) rfl (World.ownsRow.alloc OW.out _) ⟨wr.heap.size, 0, none⟩ 1 1 (encE xa xb xc xk (.slice xq xm xp)) rfl rfl (World.news_of_block (cs := #[.int .i64 xa, .int .i64 xb, .int .i64 xc, .string xk, .slice xq xm xp]) (heap_alloc_new wr _)) (one_encE xa xb xc xk xq xm xp) (by decide) (by unfold maxLen; omega) (by omega) (by simp; omega) _ rfl ?_; intro g4 cap4 w4 ho4 hg4 hat4 _; have K4h := Lib.hid (PF.out w4 g4 cap4 _ ho4 hg4); clear ho4 hg4 hat4)
      (try go_ret)
      exact K4h.out
end Go.Proofs.Ytbghjcfepjbppaa
/-
  slices.Delete of the first event.
-/
namespace Go.Proofs.Ytbghjcfepjbppaa
open Go.RowKit Go.Shelf
/-- the zero event -/
def zE : Value := .agg #[.int .i64 0, .int .i64 0, .int .i64 0, .string ⟨#[]⟩, .slice none 0 0]
theorem zeroE_one (n : Nat) : ∀ v ∈ (Builtin.zeroCells zE.cells n).toList, v.oneCell' = true := by
  intro v hv
  unfold Builtin.zeroCells at hv
  simp only [Array.toList_map, List.mem_map] at hv
  obtain ⟨i, _, rfl⟩ := hv
  have e : zE.cells = #[.int .i64 0, .int .i64 0, .int .i64 0, .string ⟨#[]⟩, .slice none 0 0] := rfl
  rw [e, show (#[Value.int .i64 0, .int .i64 0, .int .i64 0, .string ⟨#[]⟩, .slice none 0 0] : Array Value).size = 5 from rfl]
  rcases (by omega : i % 5 = 0 ∨ i % 5 = 1 ∨ i % 5 = 2 ∨ i % 5 = 3 ∨ i % 5 = 4) with h | h | h | h | h <;> rw [h] <;> rfl
theorem run_clearE (w : World) (ty : TypeId) (g o n c : Nat) (cur : Array Value) (t : TypeId) (hg : Blk w g t cur) (hn : 0 < n) (hfit : o + n * 5 ≤ cur.size) :
    (Builtin.clear_ #[89] ty #[.slice (some ⟨g, o, none⟩) n c]).run Try.prog w =
      .ok (.tuple #[]) (w.setRow g (cur.toList.take o ++ (Builtin.zeroCells zE.cells n).toList ++ cur.toList.drop (o + n * 5)).toArray) := by
  obtain ⟨i0, hi, hz0, hz1, hz2⟩ := info_parts info31
  have hl : (Builtin.zeroCells zE.cells n).toList.length = n * 5 := by
    rw [Array.length_toList, size_zeroCells]; rfl
  have hst := run_storeCells_at Try.prog g o t _ 0 cur w hg (by rw [hl]; simpa using hfit) (zeroE_one n)
  rw [hl] at hst
  obtain ⟨m, rfl⟩ : ∃ m, n = m + 1 := ⟨n - 1, by omega⟩
  obtain ⟨Z, hZ⟩ : ∃ Z, Z = Builtin.zeroCells zE.cells (m + 1) := ⟨_, rfl⟩
  rw [← hZ] at hst ⊢
  have hzc : ∀ w, (zeroValue 31).run Try.prog w = .ok zE w := fun w => by simp [zeroValue, typeInfo, hi, hz0, zE]
  simp [Builtin.clear_, run_underlying Try.underlying89, hzc]
  rw [← hZ, hst]
  simp
theorem Blk.row {w : World} {g : Nat} {t : TypeId} {cs cs' : Array Value} (h : Blk w g t cs) : Blk (w.setRow g cs') g t cs' := setRow_heap w g cs cs' t (0, 0) h
theorem fr_row (w : World) (g : Nat) (cs : Array Value) : Fr w (w.setRow g cs) (fun q => q = g) := ⟨rfl, rfl, rfl, by simp, fun q _ hne => setRow_other _ _ _ _ hne⟩
theorem step_append_runI {P : Program} {ops : Array Oper} {o : Oper} {a : Act} {w : World} {K : Act → World → Prop} {Q : Exit → Act → World → Prop} {E : Prop}
    (hg : o.guard = none) (d x : Operand) (dT sT : TypeId) (hop : o.op = Op.call { callee := Callee.builtin Builtin.append, args := #[d, x], argTypes := #[dT, sT] })
    (v u : Value) (hd : a.eval d = v) (hx : a.eval x = u) {v' : Value} {w' : World} (hr : (Builtin.append_ #[dT, sT] o.type #[v, u]).run P w = .ok v' w') (hK : K (a.put o.dst v') w') :
    if Region.wanted o (yielded ops a.tmps) = true then Oper.wp P o a w K Q else E := by
  have hw : Region.wanted o (yielded ops a.tmps) = true := by simp [Region.wanted, hg]
  rw [if_pos hw]
  unfold Oper.wp
  simp [execOp, hop, resolve, invoke, builtin, hd, hx, hr, Result.andThen]
  exact hK
/-- what a deletion leaves -/
def Deld (w : World) (B : Nat) (v : Value) (n : Nat) (cs : List Value) (e : Ending) (w' : World) : Prop :=
  ∃ v', e = .returned v' ∧ w'.ownsRow B 31 5 v' n cs ∧ Fr w w' (fun q => v.ownBlock = some q) ∧ v'.ownBlock = v.ownBlock ∧ ∃ a c, v' = .slice a n c
set_option maxHeartbeats 4000000 in
set_option maxRecDepth 100000 in
theorem delete_first {w : World} {B n : Nat} {v : Value} {cs : List Value} (h : w.ownsRow B 31 5 v (n + 1) cs) (hl : n + 1 ≤ 1000) (h1 : ∀ u ∈ cs, u.oneCell' = true) :
    Calls Try.prog 73 #[v, .int .i64 0, .int .i64 1] w (Deld w B v n (cs.drop 5)) := by
  have hcl := h.1
  obtain ⟨g, cap, cur, rfl, hBg, hg, hnc, hcm, hcs, hct⟩ : ∃ g cap cur, v = .slice (some ⟨g, 0, none⟩) (n + 1) cap ∧ B ≤ g ∧ w.heap[g]? = some (.cells cur 31 (0, 0)) ∧ n + 1 ≤ cap ∧ cap ≤ maxLen ∧ cur.size = cap * 5 ∧ cur.toList.take ((n + 1) * 5) = cs := by
    rcases h.2 with ⟨_, h'⟩ | ⟨g', cap', cur, h'⟩
    · omega
    · exact ⟨g', cap', cur, h'⟩
  obtain ⟨i0, hi, hz0, hz1, hz2⟩ := info_parts info31
  have G : Blk w g 31 cur := hg
  have hdl : (cs.drop 5).length = n * 5 := by rw [List.length_drop, hcl]; omega
  obtain ⟨cur1, hc1⟩ : ∃ cur1 : Array Value, cur1 = (cur.toList.take (0 * 5) ++ cs.drop 5 ++ cur.toList.drop (0 * 5 + (cs.drop 5).length)).toArray := ⟨_, rfl⟩
  have hcll : cur.toList.length = cap * 5 := by rw [Array.length_toList]; exact hcs
  have hs1 : cur1.size = cap * 5 := by
    have e3 : (cur.toList.drop (0 * 5 + (cs.drop 5).length)).length = cap * 5 - n * 5 := by rw [hdl, List.length_drop, hcll]; omega
    rw [hc1, List.size_toArray, List.length_append, List.length_append, List.length_take, e3, hdl]; omega
  have hs1l : cur1.toList.length = cap * 5 := by rw [Array.length_toList]; exact hs1
  obtain ⟨W1, hW1⟩ : ∃ W1, W1 = w.drew.setRow g cur1 := ⟨_, rfl⟩
  have G1 : Blk W1 g 31 cur1 := by rw [hW1]; exact Blk.row (show Blk w.drew g 31 cur from hg)
  have FW1 : Fr w W1 (fun q => q = g) := by
    rw [hW1]
    exact (fr_drew w (fun q => q = g)).on (fr_row _ _ _)
  obtain ⟨A, hA, hsrc⟩ : ∃ A : Addr, (if cap = 1 then some (⟨g, 0, none⟩ : Addr) else some ⟨g, 5, none⟩) = some A ∧ (∀ j u, (cs.drop 5)[j]? = some u → w.drew.cell? (A.add j) = some u) := by
    by_cases hc : cap = 1
    · refine ⟨⟨g, 0, none⟩, by rw [if_pos hc], fun j u hu => ?_⟩
      have h0 : (cs.drop 5).length = 0 := by rw [hdl]; omega
      rw [List.length_eq_zero_iff.1 h0] at hu
      simp at hu
    · refine ⟨⟨g, 5, none⟩, by rw [if_neg hc], fun j u hj => ?_⟩
      have hjl : j < n * 5 := by rw [← hdl]; exact (List.getElem?_eq_some_iff.1 hj).1
      rw [show (⟨g, 5, none⟩ : Addr).add j = ⟨g, 5 + j, none⟩ by unfold Addr.add; split <;> simp_all, show (w.drew).cell? ⟨g, 5 + j, none⟩ = w.cell? ⟨g, 5 + j, none⟩ from rfl, G.cell, ← Array.getElem?_toList]
      rw [List.getElem?_drop, ← hct, List.getElem?_take, if_pos (by omega)] at hj
      exact hj
  have HAP : Hid (∀ ty c, (Builtin.append_ #[89, 89] ty #[.slice (some ⟨g, 0, none⟩) 0 cap, .slice (some A) n c]).run Try.prog w.drew = .ok (.slice (some ⟨g, 0, none⟩) n cap) W1) := Lib.hid fun ty c => by
    have := run_append_room (P := Try.prog) w.drew 89 ty 31 i0 Try.underlying89 hi g 0 cap cur hg A n c (cs.drop 5) (by rw [hz1]; exact hdl) hsrc (fun u hu => h1 u (List.mem_of_mem_drop hu)) (by omega) (by rw [hz1, hdl]; omega)
    rw [hz1] at this
    rw [this, hW1, hc1]
    simp
  obtain ⟨cur2, hc2⟩ : ∃ cur2 : Array Value, cur2 = (cur1.toList.take (n * 5) ++ (Builtin.zeroCells zE.cells 1).toList ++ cur1.toList.drop (n * 5 + 1 * 5)).toArray := ⟨_, rfl⟩
  have hz : (Builtin.zeroCells zE.cells 1).toList.length = 5 := by rw [Array.length_toList, size_zeroCells]; rfl
  have hs2 : cur2.size = cap * 5 := by
    rw [hc2, List.size_toArray, List.length_append, List.length_append, List.length_take, List.length_drop, hz]; omega
  have HCL : Hid (∀ ty c, (Builtin.clear_ #[89] ty #[.slice (some ⟨g, n * 5, none⟩) 1 c]).run Try.prog W1 = .ok (.tuple #[]) (W1.setRow g cur2)) := Lib.hid fun ty c => by
    rw [run_clearE W1 ty g (n * 5) 1 c cur1 31 G1 (by decide) (by omega), hc2]
  have FIN : Hid (Deld w B (.slice (some ⟨g, 0, none⟩) (n + 1) cap) n (cs.drop 5) (.returned (.slice (some ⟨g, 0, none⟩) n cap)) (W1.setRow g cur2)) := by
    refine Lib.hid ⟨_, rfl, ⟨hdl, .inr ⟨g, cap, cur2, rfl, hBg, G1.row, by omega, hcm, hs2, ?_⟩⟩, (FW1.on (fr_row W1 g cur2)).mono (fun q _ e => by subst e; rfl), rfl, _, _, rfl⟩
    rw [hc2, hc1, List.toList_toArray, List.toList_toArray, Nat.zero_mul, List.take_zero, List.nil_append, List.append_assoc, List.take_append_of_le_length (l₁ := List.take (n * 5) _) (by rw [List.length_take, List.length_append, hdl]; omega), List.take_take, Nat.min_self, List.take_append_of_le_length (by rw [hdl]; exact Nat.le_refl _), List.take_of_length_le (by rw [hdl]; exact Nat.le_refl _)]
  clear h hc1 hc2 G1 FW1 hW1 G hg hct hs1 hs2 hcll hs1l hdl hsrc hi hz0 hz1 hz2 hz hcl
  have hcap : (cap : Int) ≤ 9223372036854775807 := by unfold maxLen at hcm; omega
  generalize Deld w B (.slice (some ⟨g, 0, none⟩) (n + 1) cap) n (cs.drop 5) = Q at *
  have mixed : Try.prog.follows .mixedOrders = true := by kernel_rfl
  have hpc : 1 ≤ cap := by omega
  have hb2 : (1 : Int) ≤ (n : Int) + 1 := by omega
  have hb5 : ¬ (cap = n) := by omega
  have hb6 : n + 1 - n = 1 := by omega
  have hap := HAP.out
  have hcl := HCL.out
  clear HAP HCL
  go_enter Try.func73, Try.ntmps73
  go_wp2_with fail
  go_region_law (refine step_append_runI rfl _ _ 89 89 rfl _ _ (by simp [Act.eval, Act.put]) (by simp [Act.eval, Act.put]) (hap 89 (cap - 1)) ?_)
  go_wp2_with fail
  exact FIN.out
end Go.Proofs.Ytbghjcfepjbppaa
