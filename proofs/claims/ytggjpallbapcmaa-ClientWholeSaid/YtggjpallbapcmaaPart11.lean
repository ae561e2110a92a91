/-
  WHAT THE ROWS REST ON, part 11: Rgt Rdc Rdt.
-/
import Derived.Test.YtggjpallbapcmaaPart10
/-
  WHAT A READER GOT, COPIED: Got.
-/
namespace Go.Proofs.Ytggjpallbapcmaa
open Go.RowKit
/-- matches with their numbers that the call made -/
structure GoA (w0 w : World) (LG : List (Int × List Int)) (gv : Value) (cs : List Value) : Prop where
  own : w.ownsRow w0.heap.size 72 2 gv LG.length cs
  gc : ∀ i (h : i < LG.length), ∃ q c, cs[i * 2]? = some (.int .i64 LG[i].1) ∧ cs[i * 2 + 1]? = some (.slice q LG[i].2.length c) ∧ Bk.Nums w q LG[i].2 ∧ ∀ p, q = some p → w0.heap.size ≤ p.block ∧ p.block < w.heap.size ∧ gv.ownBlock ≠ some p.block
  b : Below w0.heap.size w0 w
theorem goA_nil (w0 w : World) (b : Below w0.heap.size w0 w) : GoA w0 w [] (.slice none 0 0) [] := ⟨World.ownsRow_nil _ _ _ _, fun i h => by simp at h, b⟩
theorem GoA.push {w0 w v w4 : World} {LG : List (Int × List Int)} {gv : Value} {cs : List Value} {a' : Option Addr} {c' g cap : Nat} {n : Int} {xs : List Int} (o : Obj) (h : GoA w0 w LG gv cs) (bv : Below w.heap.size w v)
    (hn : Bk.Nums v a' xs) (ha : ∀ ad, a' = some ad → w.heap.size ≤ ad.block ∧ ad.block < v.heap.size)
    (ho : w4.ownsRow w0.heap.size 72 2 (.slice (some ⟨g, 0, none⟩) (LG.length + 1) cap) (LG.length + 1) (cs ++ [.int .i64 n, .slice a' xs.length c'])) (hg : (v.alloc o).grownBy w4 gv.ownBlock) (hat : gv.ownBlock = some g ∨ g = (v.alloc o).heap.size) :
    GoA w0 w4 (LG ++ [(n, xs)]) (.slice (some ⟨g, 0, none⟩) (LG.length + 1) cap) (cs ++ [.int .i64 n, .slice a' xs.length c']) := by
  have hgl : ∀ q, gv.ownBlock = some q → w0.heap.size ≤ q ∧ q < w.heap.size := fun q hq => World.ownsRow.lt h.own q hq
  have hs1 : (v.alloc o).heap.size = v.heap.size + 1 := by simp
  have hvs := bv.size
  have f0 : Fr w (v.alloc o) (fun q => gv.ownBlock = some q) := (Fr.of_below bv _).al o
  have f1 : Fr (v.alloc o) w4 (fun q => gv.ownBlock = some q) := (Fr.of_grown hg).mono (fun q _ h => h.symm)
  have f2 : Fr w w4 (fun q => gv.ownBlock = some q) := f0.on f1
  have h6 := f2.size
  have h7 := f1.size
  have hb6 := h.b.size
  have avg : ∀ ad, a' = some ad → ad.block ≠ g := fun ad e => by
    have h1 := ha ad e
    rcases hat with e' | e'
    · have := hgl g e'; omega
    · omega
  refine ⟨by rw [List.length_append]; exact ho, fun i hi => ?_, h.b.trans (f2.below (fun q hq => (hgl q hq).1) hb6)⟩
  rw [List.length_append] at hi
  simp only [List.length_cons, List.length_nil] at hi
  have hcl : cs.length = LG.length * 2 := h.own.1
  rcases Nat.lt_or_ge i LG.length with h1 | h1
  · obtain ⟨q, c, e0, e1, nn, hb⟩ := h.gc i h1
    rw [List.getElem_append_left h1, List.getElem?_append_left (by omega), List.getElem?_append_left (by omega)]
    refine ⟨q, c, e0, e1, nums_fr nn f2 (fun ad e hh => (hb ad e).2.2 hh), fun p hp => ⟨(hb p hp).1, by have := (hb p hp).2.1; omega, ?_⟩⟩
    intro hh
    have hpg : g = p.block := by simpa [Value.ownBlock] using hh
    rcases hat with e' | e'
    · exact (hb p hp).2.2 (by rw [e', hpg])
    · have := (hb p hp).2.1; omega
  · obtain rfl : i = LG.length := by omega
    rw [List.getElem_append_right (Nat.le_refl _), List.getElem?_append_right (by omega), List.getElem?_append_right (by omega)]
    simp only [Nat.sub_self, List.getElem_cons_zero]
    rw [show LG.length * 2 - cs.length = 0 by omega, show LG.length * 2 + 1 - cs.length = 1 by omega]
    refine ⟨a', c', rfl, rfl, nums_fr (nums_fr hn ((Fr.refl v (fun q => gv.ownBlock = some q)).al o) (fun ad e hh => by have := hgl _ hh; have := ha ad e; omega)) f1 (fun ad e hh => by have := hgl _ hh; have := ha ad e; omega), fun p hp => ⟨by have := (ha p hp).1; omega, by have := (ha p hp).2; omega, ?_⟩⟩
    intro hh
    have hpg : g = p.block := by simpa [Value.ownBlock] using hh
    exact avg p hp hpg.symm
theorem GoA.next {w0 w w' : World} {LG : List (Int × List Int)} {gv : Value} {cs : List Value} (h : GoA w0 w LG gv cs) (b : Below w.heap.size w w') : GoA w0 w' LG gv cs := by
  refine ⟨Fr.own h.own (Fr.of_below b (fun _ => False)) (fun _ _ h => h), fun i hi => ?_, h.b.trans (b.mono h.b.size)⟩
  obtain ⟨q, c, e0, e1, nn, hb⟩ := h.gc i hi
  exact ⟨q, c, e0, e1, nn.next b, fun p hp => ⟨(hb p hp).1, Nat.lt_of_lt_of_le (hb p hp).2.1 b.size, (hb p hp).2.2⟩⟩
/-- matches with their numbers that can be read -/
def Grw (w : World) (a : Option Addr) (LG : List (Int × List Int)) : Prop := ∀ i (h : i < LG.length), ∃ g q c, a = some ⟨g, 0, none⟩ ∧ g < w.heap.size ∧ w.cell? ⟨g, i * 2, none⟩ = some (.int .i64 LG[i].1) ∧ w.cell? ⟨g, i * 2 + 1, none⟩ = some (.slice q LG[i].2.length c) ∧ Bk.Nums w q LG[i].2
theorem grw_own {w : World} {B : Nat} {a : Option Addr} {n c : Nat} {cs : List Value} {LG : List (Int × List Int)} (ho : w.ownsRow B 72 2 (.slice a n c) LG.length cs)
    (gc : ∀ i (h : i < LG.length), ∃ q c, cs[i * 2]? = some (.int .i64 LG[i].1) ∧ cs[i * 2 + 1]? = some (.slice q LG[i].2.length c) ∧ Bk.Nums w q LG[i].2) : Grw w a LG := by
  intro i hi
  obtain ⟨q, cq, e0, e1, nn⟩ := gc i hi
  have hcl : cs.length = LG.length * 2 := ho.1
  have h0 := ho
  rcases ho.2 with ⟨_, e3⟩ | ⟨g, cap, cur, e3, hb, hg, _⟩
  · omega
  · obtain ⟨rfl, rfl, rfl⟩ : a = some ⟨g, 0, none⟩ ∧ n = LG.length ∧ c = cap := by
      simp only [Value.slice.injEq] at e3; exact e3
    exact ⟨g, q, cq, rfl, (Array.getElem?_eq_some_iff.1 hg).1, by rw [h0.cellAt _ (by omega)]; exact e0, by rw [h0.cellAt _ (by omega)]; exact e1, nn⟩
/-- what Got answers -/
def Glst (w : World) (LG : List (Int × List Int)) (e : Ending) (w' : World) : Prop := ∃ a' c', e = .returned (.slice a' LG.length c') ∧ Grw w' a' LG ∧ Below w.heap.size w w'
set_option maxHeartbeats 4000000 in
set_option maxRecDepth 100000 in
theorem rgot_any {w : World} {U : Nat → Prop} {t : Nat} {nodes to : Int} {nm : ByteArray} {most at_ gone : Int} {LG : List (Int × List Int)}
    (h : RdM w U t nodes to nm most at_ gone LG) (hS : ∀ x ∈ LG, x.2.length ≤ 17592186043904) (hg : LG.length ≤ 5000) :
    Calls Try.prog 26 #[.pointer (some ⟨t, 0, none⟩)] w (Glst w LG) := by
  obtain ⟨i72, hi, hz0, hz1, hz2⟩ := info_parts info72
  obtain ⟨gv, cs0, A⟩ := h
  obtain ⟨ua0, uc0, rfl⟩ := own_slice A.own
  have SRC : Hid (∀ wr, Below w.heap.size w wr → ∀ j (hj : j < LG.length), ∃ g q c, ua0 = some ⟨g, 0, none⟩ ∧ wr.cell? ⟨g, j * 2, none⟩ = some (.int .i64 LG[j].1) ∧ wr.cell? ⟨g, j * 2 + 1, none⟩ = some (.slice q LG[j].2.length c) ∧ Bk.Nums wr q LG[j].2) := Lib.hid (by
    intro wr b j hj
    have A1 := A.fr (P := fun _ => False) (Fr.of_below b _) (fun _ hf => hf.elim)
    obtain ⟨g, q, c, e, _, k0, k1, nn⟩ := grw_own A1.own (fun i hi => by obtain ⟨q, c, e0, e1, nn, _⟩ := A1.gc i hi; exact ⟨q, c, e0, e1, nn⟩) j hj
    exact ⟨g, q, c, e, k0, k1, nn⟩)
  have c6 : w.cell? ⟨t, 6, none⟩ = some (.slice ua0 LG.length uc0) := A.blk.cell 6
  have Sh := Lib.hid hS
  have R0 : Hid (GoA w w [] (.slice none 0 0) []) := Lib.hid (goA_nil w w (Below.refl _ _))
  obtain ⟨n, hn⟩ : ∃ n, n = LG.length := ⟨_, rfl⟩
  have HN := Lib.hid hn
  rw [← hn] at hg c6
  have hgI : (n : Int) ≤ 5000 := by omega
  clear A hS hn
  go_enter Try.func26, Try.ntmps26
  go_wp2_with fail
  go_loopw [2, 12] (fun v i wr => ∃ (j : Nat) (cs : List Value), i = .int .i64 j ∧ j ≤ n ∧ Hid (GoA w wr (LG.take j) v cs))
    (fun v i wr => n - (intOf i).toNat)
  case atStart => exact ⟨0, [], rfl, Nat.zero_le _, R0⟩
  case round =>
    obtain ⟨j, cs, rfl, hj, hR⟩ := hrel
    clear R0 c6
    have ljn : (LG.take j).length = j := by rw [List.length_take, Nat.min_eq_left (by rw [← HN.out]; exact hj)]
    have O1 := hR.out.own
    rw [ljn] at O1
    obtain ⟨va, vc, rfl⟩ := own_slice O1
    by_cases hjn : j < n
    · have jI : (j : Int) < (n : Int) := by omega
      have jB := decide_eq_true jI
      have hjL : j < LG.length := by rw [← HN.out]; exact hjn
      obtain ⟨x, hx⟩ : ∃ x, x = LG[j]'hjL := ⟨_, rfl⟩
      have hTk : LG.take (j + 1) = LG.take j ++ [x] := by rw [hx]; exact List.take_succ_eq_append_getElem hjL
      have hxm : x ∈ LG := by rw [hx]; exact List.getElem_mem hjL
      have hsm := Sh.out x hxm
      obtain ⟨g0, q0, k0, rfl, ck0, ck1, nn⟩ := SRC.out wr hR.out.b j hjL
      rw [← hx] at ck0 ck1 nn
      obtain ⟨xn, xs⟩ := x
      simp only at ck0 ck1 nn hsm
      obtain ⟨W1, hW1, X1, B1⟩ : ∃ W1, W1 = wr.alloc (.cells #[.int .i64 xn, .slice q0 xs.length k0] 72) ∧ Blk W1 wr.heap.size 72 #[.int .i64 xn, .slice q0 xs.length k0] ∧ Below wr.heap.size wr W1 := ⟨_, rfl, Blk.new _ _ _, (Below.refl _ _).alloc (Nat.le_refl _) _⟩
      have GT := Lib.hid (got_any (w := W1) xn k0 (nn.next B1) hsm)
      have PU := Lib.hid (fun (v w4 : World) (a' : Option Addr) (c' g cap : Nat) (o : Obj) bv hn ha ho hg hat => (hR.out.next B1).push (v := v) (w4 := w4) (a' := a') (c' := c') (g := g) (cap := cap) (n := xn) (xs := xs) o bv hn ha ho hg hat)
      have OW := Lib.hid (fun (v : World) (bv : Below W1.heap.size W1 v) => Fr.own (hR.out.next B1).own (Fr.of_below bv (fun _ => False)) (fun _ _ h => h))
      have hbs := Nat.le_trans hR.out.b.size B1.size
      rw [ljn] at PU OW
      rw [← hTk] at PU
      have X1h := Lib.hid X1
      have W1h := Lib.hid hW1
      have x0 : W1.cell? ⟨wr.heap.size, 0, none⟩ = some (.int .i64 xn) := X1.cell 0
      have x1 : W1.cell? ⟨wr.heap.size, 1, none⟩ = some (.slice q0 xs.length k0) := X1.cell 1
      clear hR O1 X1 B1 hW1 nn hsm hxm hTk hx
      unfold GotR at GT
      generalize xs.length = m at *
      go_wp2_with fail
      rw [← W1h.out]
      go_wp2_with fail
      refine GT.out.mono ?_
      rintro r9 v2 ⟨a2, c2, rfl, nn2, hp2, b2⟩
      have BV := Lib.hid b2
      have nn2 := Lib.hid nn2
      have hp2 := Lib.hid hp2
      have OW2 := Lib.hid (OW.out v2 b2)
      have hb2 := Nat.le_trans hbs b2.size
      clear b2 GT x0 x1 ck0 ck1
      go_wp2_with (at_builtin; refine wpList_append_lies _ rfl (.tmp 16) (.tmp 22) 67 rfl w.heap.size 72 i72 (.agg #[.int .i64 0, .slice none 0 0]) 2 32 Try.underlying67 hi hz0 hz1 hz2 rfl (by decide) (.slice va j vc) j cs rfl (World.ownsRow.alloc OW2.out _) ⟨v2.heap.size, 0, none⟩ 1 1 [.int .i64 xn, .slice a2 m c2] rfl rfl (World.news_of_block (cs := #[.int .i64 xn, .slice a2 m c2]) (heap_alloc_new v2 _)) (one_got _ a2 m c2) (by decide) (by unfold maxLen; omega) (by omega) (by simp; omega) _ rfl ?_; intro g4 cap4 w4 ho4 hg4 hat4 _; have K4h := Lib.hid (PU.out v2 w4 a2 c2 g4 cap4 _ BV.out nn2.out hp2.out ho4 hg4 hat4); clear ho4 hg4 hat4)
      go_roundw
      case rel => exact ⟨j + 1, _, by go_num, by omega, K4h⟩
      case measure => simp [intOf]; omega
    · obtain rfl : j = n := by omega
      have jI : ¬ (j : Int) < (j : Int) := by omega
      have hT : LG.take j = LG := List.take_of_length_le (Nat.le_of_eq HN.out.symm)
      have R9 : Hid (GoA w wr LG (.slice va j vc) cs) := Lib.hid (by have := hR.out; rw [hT] at this; exact this)
      have F9 : Hid (Glst w LG (.returned (.slice va j vc)) wr) := Lib.hid ⟨va, vc, by rw [← HN.out], grw_own R9.out.own (fun i hi => by obtain ⟨q, c, e0, e1, nn, _⟩ := R9.out.gc i hi; exact ⟨q, c, e0, e1, nn⟩), R9.out.b⟩
      clear hR O1 R9
      generalize Glst w LG = Q at *
      go_wp2_with fail
      (try go_ret)
      exact F9.out
end Go.Proofs.Ytggjpallbapcmaa
/-
  THE DOCUMENT's READER: next; lists with the blocks they lie in; Rows.
-/
namespace Go.Proofs.Ytggjpallbapcmaa
open Go.RowKit
theorem rnext_any (to nodes : Int) (w : World) (ht : 0 ≤ to ∧ to ≤ 100) : Calls Try.prog 48 #[.int .i64 to, .int .i64 nodes] w fun e w' => e = .returned (.int .i64 (nextN to nodes)) ∧ w = w' := by
  have hw : wrap64 (to + 1) = to + 1 := by unfold wrap64; omega
  unfold nextN
  by_cases h : to + 1 < nodes
  · rw [if_pos h]
    have hd : decide (to + 1 < nodes) = true := by simp; omega
    go_enter Try.func48, Try.ntmps48
    go_wp2_with fail
    go_ret
    exact ⟨rfl, rfl⟩
  · rw [if_neg h]
    have hd : decide (to + 1 < nodes) = false := by simp; omega
    go_enter Try.func48, Try.ntmps48
    go_wp2_with fail
    go_ret
    exact ⟨rfl, rfl⟩
/-- numbers in the blocks V -/
def NumsD (w : World) (V : Nat → Prop) (a : Option Addr) (xs : List Int) : Prop := Bk.Nums w a xs ∧ ∀ p, a = some p → xs ≠ [] → V p.block
/-- rows of numbers in the blocks V -/
def RwsD (w : World) (V : Nat → Prop) (a : Option Addr) (LL : List (List Int)) : Prop := ∀ i (h : i < LL.length), ∃ g o q c, a = some ⟨g, o, none⟩ ∧ g < w.heap.size ∧ V g ∧ w.cell? ⟨g, o + i, none⟩ = some (.slice q LL[i].length c) ∧ NumsD w V q LL[i]
section
variable {w w' : World} {V P : Nat → Prop} {a : Option Addr} {xs : List Int} {LL : List (List Int)}
theorem NumsD.fr (h : NumsD w V a xs) (f : Fr w w' P) (hP : ∀ q, V q → ¬ P q) : NumsD w' V a xs := ⟨fun i hi => by
  obtain ⟨g, o, e, hl, c⟩ := h.1 i hi
  have hv := h.2 _ e (fun e0 => by rw [e0] at hi; simp at hi)
  exact ⟨g, o, e, Nat.lt_of_lt_of_le hl f.size, f.cell hl (hP _ hv) c⟩, h.2⟩
theorem NumsD.mono {V' : Nat → Prop} (h : NumsD w V a xs) (hV : ∀ q, V q → V' q) : NumsD w V' a xs := ⟨h.1, fun p e hx => hV _ (h.2 p e hx)⟩
theorem RwsD.fr (h : RwsD w V a LL) (f : Fr w w' P) (hP : ∀ q, V q → ¬ P q) : RwsD w' V a LL := fun i hi => by
  obtain ⟨g, o, q, c, e, hl, hv, ck, nn⟩ := h i hi
  exact ⟨g, o, q, c, e, Nat.lt_of_lt_of_le hl f.size, hv, f.cell hl (hP _ hv) ck, nn.fr f hP⟩
theorem RwsD.mono {V' : Nat → Prop} (h : RwsD w V a LL) (hV : ∀ q, V q → V' q) : RwsD w V' a LL := fun i hi => by
  obtain ⟨g, o, q, c, e, hl, hv, ck, nn⟩ := h i hi
  exact ⟨g, o, q, c, e, hl, hV _ hv, ck, nn.mono hV⟩
theorem RwsD.next (h : RwsD w V a LL) (b : Below w.heap.size w w') : RwsD w' V a LL := h.fr (P := fun _ => False) (Fr.of_below b _) (fun _ _ hf => hf)
theorem NumsD.next (h : NumsD w V a xs) (b : Below w.heap.size w w') : NumsD w' V a xs := h.fr (P := fun _ => False) (Fr.of_below b _) (fun _ _ hf => hf)
theorem RwsD.rws (h : RwsD w V a LL) : Bk.Rws w a LL := fun i hi => by
  obtain ⟨g, o, q, c, e, hl, hv, ck, nn⟩ := h i hi
  exact ⟨g, o, q, c, e, hl, ck, nn.1⟩
theorem rwsD_nil (w : World) (V : Nat → Prop) (a : Option Addr) : RwsD w V a [] := fun i hi => by simp at hi
theorem numsD_nil (w : World) (V : Nat → Prop) (a : Option Addr) : NumsD w V a [] := ⟨fun i hi => by simp at hi, fun _ _ h => absurd rfl h⟩
end
/-- rows' cells, their numbers in the blocks V -/
def CelD (w : World) (V : Nat → Prop) (cs : List Value) (LL : List (List Int)) : Prop := cs.length = LL.length ∧ ∀ (i : Nat) (_h : i < cs.length) (h2 : i < LL.length), ∃ q c, cs[i]? = some (.slice q LL[i].length c) ∧ NumsD w V q LL[i]
section
variable {w w' : World} {V : Nat → Prop} {cs : List Value} {LL : List (List Int)}
theorem celD_nil (w : World) (V : Nat → Prop) : CelD w V [] [] := ⟨rfl, fun i h => by simp at h⟩
theorem CelD.fr {P : Nat → Prop} (h : CelD w V cs LL) (f : Fr w w' P) (hP : ∀ q, V q → ¬ P q) : CelD w' V cs LL := ⟨h.1, fun i a b => by
  obtain ⟨q, c, e, nn⟩ := h.2 i a b
  exact ⟨q, c, e, nn.fr f hP⟩⟩
theorem CelD.snoc {q : Option Addr} {c : Nat} {xs : List Int} (h : CelD w V cs LL) (hn : NumsD w V q xs) : CelD w V (cs ++ [.slice q xs.length c]) (LL ++ [xs]) := ⟨by simp [h.1], fun i a b => by
  have := h.1
  rcases Nat.lt_or_ge i cs.length with hi | hi
  · rw [List.getElem?_append_left hi, List.getElem_append_left (by omega)]
    exact h.2 i hi (by omega)
  · simp only [List.length_append, List.length_cons, List.length_nil] at a b
    obtain rfl : i = cs.length := by omega
    rw [List.getElem?_append_right (Nat.le_refl _), List.getElem_append_right (by omega)]
    simp only [this, Nat.sub_self, List.getElem_cons_zero]
    exact ⟨q, c, rfl, hn⟩⟩
theorem CelD.rws {V' : Nat → Prop} {B : Nat} {a : Option Addr} {n c : Nat} (h : CelD w V cs LL) (ho : w.ownsRow B 55 1 (.slice a n c) LL.length cs) (hV : ∀ q, V q → V' q) (hB : ∀ q, B ≤ q → V' q) : RwsD w V' a LL := by
  intro i hi
  have hl := h.1
  obtain ⟨q, cq, e, nn⟩ := h.2 i (by omega) hi
  have h0 := ho
  rcases ho.2 with ⟨_, e3⟩ | ⟨g, cap, cur, e3, hb, hg, _⟩
  · omega
  · obtain ⟨rfl, rfl, rfl⟩ : a = some ⟨g, 0, none⟩ ∧ n = LL.length ∧ c = cap := by
      simp only [Value.slice.injEq] at e3; exact e3
    refine ⟨g, 0, q, cq, rfl, (Array.getElem?_eq_some_iff.1 hg).1, hB _ hb, ?_, nn.mono hV⟩
    rw [Nat.zero_add, h0.cellAt _ (by omega), e]
end
theorem info55 : (Try.prog.info? 55).map (fun i => (i.zero, i.size, i.bytes)) = some (some (.slice none 0 0), 1, 24) := by kernel_rfl
theorem one_sl (a : Option Addr) (m c : Nat) : ∀ u ∈ ([.slice a m c] : List Value), u.oneCell' = true := by
  intro u hu
  rw [List.mem_singleton.1 hu]; rfl
/-- what Rows leaves -/
def RowD (w : World) (V : Nat → Prop) (LL : List (List Int)) (e : Ending) (w' : World) : Prop := ∃ a' c', e = .returned (.slice a' LL.length c') ∧ RwsD w' (fun q => V q ∨ w.heap.size ≤ q) a' LL ∧ Below w.heap.size w w'
/-- one row more, of rows that the call made -/
structure RoA (w0 w : World) (V : Nat → Prop) (LL : List (List Int)) (v : Value) (cs : List Value) : Prop where
  own : w.ownsRow w0.heap.size 55 1 v LL.length cs
  cel : CelD w V cs LL
  b : Below w0.heap.size w0 w
theorem RoA.push {w0 w w4 : World} {V : Nat → Prop} {LL : List (List Int)} {v v' : Value} {cs : List Value} {q : Option Addr} {c : Nat} {xs : List Int} (o : Obj) (hV : ∀ q, V q → q < w0.heap.size) (h : RoA w0 w V LL v cs) (hn : NumsD w V q xs)
    (ho : w4.ownsRow w0.heap.size 55 1 v' (LL.length + 1) (cs ++ [.slice q xs.length c])) (hg : (w.alloc o).grownBy w4 v.ownBlock) : RoA w0 w4 V (LL ++ [xs]) v' (cs ++ [.slice q xs.length c]) := by
  have hb := h.b.size
  have f : Fr w w4 (fun q => v.ownBlock = some q) := ((Fr.refl w _).al o).on ((Fr.of_grown hg).mono (fun q _ h => h.symm))
  have hP : ∀ q, V q → ¬ v.ownBlock = some q := fun q hq e => by
    have := (World.ownsRow.lt h.own q e).1
    have := hV q hq
    omega
  refine ⟨by rw [List.length_append]; exact ho, (h.cel.fr f hP).snoc (hn.fr f hP), h.b.trans (f.below (fun q hq => (World.ownsRow.lt h.own q hq).1) hb)⟩
set_option maxHeartbeats 4000000 in
set_option maxRecDepth 100000 in
theorem rowsD_any {w : World} {V : Nat → Prop} {a : Option Addr} {LL : List (List Int)} (c : Nat) (h : RwsD w V a LL) (hV : ∀ q, V q → q < w.heap.size) (hl : LL.length ≤ 1000) :
    Calls Try.prog 20 #[.slice a LL.length c] w (RowD w V LL) := by
  obtain ⟨i55, hi, hz0, hz1, hz2⟩ := info_parts info55
  have R0 : Hid (RoA w w V [] (.slice none 0 0) []) := Lib.hid ⟨World.ownsRow_nil _ _ _ _, celD_nil _ _, Below.refl _ _⟩
  have SRC := Lib.hid (fun (wr : World) (b : Below w.heap.size w wr) => h.next b)
  obtain ⟨n, hn⟩ : ∃ n, n = LL.length := ⟨_, rfl⟩
  have HN := Lib.hid hn
  have Q9 : Hid (∀ wr va vc cs, RoA w wr V LL (.slice va n vc) cs → RowD w V LL (.returned (.slice va n vc)) wr) := Lib.hid (fun wr va vc cs k => ⟨va, vc, by rw [hn], k.cel.rws k.own (fun _ hq => .inl hq) (fun _ hq => .inr hq), k.b⟩)
  rw [← hn] at hl ⊢
  have hVh := Lib.hid hV
  have hlI : (n : Int) ≤ 1000 := by omega
  generalize RowD w V LL = Q at *
  clear h hV hn
  go_enter Try.func20, Try.ntmps20
  go_wp2_with fail
  go_loopw [3, 4] (fun v i wr => ∃ (j : Nat) (cs : List Value), i = .int .i64 j ∧ j ≤ n ∧ Hid (RoA w wr V (LL.take j) v cs))
    (fun v i wr => n - (intOf i).toNat)
  case atStart => exact ⟨0, [], rfl, Nat.zero_le _, R0⟩
  case round =>
    obtain ⟨j, cs, rfl, hj, hR⟩ := hrel
    clear R0
    have ljn : (LL.take j).length = j := by rw [List.length_take, Nat.min_eq_left (by rw [← HN.out]; exact hj)]
    have O1 := hR.out.own
    rw [ljn] at O1
    obtain ⟨va, vc, rfl⟩ := own_slice O1
    by_cases hjn : j < n
    · have jI : (j : Int) < (n : Int) := by omega
      have jB := decide_eq_true jI
      have hjL : j < LL.length := by rw [← HN.out]; exact hjn
      obtain ⟨x, hx⟩ : ∃ x, x = LL[j]'hjL := ⟨_, rfl⟩
      have hTk : LL.take (j + 1) = LL.take j ++ [x] := by rw [hx]; exact List.take_succ_eq_append_getElem hjL
      obtain ⟨g, o, q, cq, rfl, hgs, hgv, ck, nn⟩ := SRC.out wr hR.out.b j hjL
      rw [← hx] at ck nn
      have PU := Lib.hid (fun (w4 : World) (v' : Value) (o : Obj) ho hg => hR.out.push (w4 := w4) (v' := v') (c := cq) o hVh.out nn ho hg)
      rw [ljn, ← hTk] at PU
      have OW := Lib.hid O1
      have hbs := hR.out.b.size
      clear hR O1 nn hgs hgv hTk hx
      generalize x.length = m at *
      go_wp2_with (at_builtin; refine wpList_append_own _ rfl _ _ 56 rfl w.heap.size 55 i55 (.slice none 0 0) 1 24 Try.underlying56 hi hz0 hz1 hz2 rfl (by decide) (.slice va j vc) j cs rfl (OW.out.alloc _) ⟨wr.heap.size, 0, none⟩ 1 1 [.slice q m cq] rfl rfl (World.news_of_block (cs := #[.slice q m cq]) (heap_alloc_new wr _)) (one_sl q m cq) (by unfold maxLen; omega) (by omega) (by simp; omega) ?_; intro v' w3 ho hg2 _; have K4h := Lib.hid (PU.out w3 v' _ ho hg2); clear ho hg2)
      go_roundw
      case rel => exact ⟨j + 1, _, by go_num, by omega, K4h⟩
      case measure => simp [intOf]; omega
    · obtain rfl : j = n := by omega
      have jI : ¬ (j : Int) < (j : Int) := by omega
      have hT : LL.take j = LL := List.take_of_length_le (Nat.le_of_eq HN.out.symm)
      have F9 : Hid (Q (.returned (.slice va j vc)) wr) := Lib.hid (Q9.out wr va vc cs (by have := hR.out; rw [hT] at this; exact this))
      clear hR O1
      go_wp2_with fail
      (try go_ret)
      exact F9.out
end Go.Proofs.Ytggjpallbapcmaa
/-
  THE DOCUMENT's READER IS TOLD.
-/
namespace Go.Proofs.Ytggjpallbapcmaa
open Go.RowKit
/-- numbers and rows side by side, that the call made -/
structure TwoA (w0 w : World) (V : Nat → Prop) (Ns : List Int) (Gs : List (List Int)) (va vb : Value) (cs : List Value) : Prop where
  ints : w.ownsRow w0.heap.size 3 1 va Ns.length (Ns.map (Value.int .i64))
  rows : RoA w0 w V Gs vb cs
theorem own_ne {w : World} {B1 B2 t1 t2 s1 s2 n1 n2 : Nat} {v1 v2 : Value} {x1 x2 : List Value} (h1 : w.ownsRow B1 t1 s1 v1 n1 x1) (h2 : w.ownsRow B2 t2 s2 v2 n2 x2) (ht : t1 ≠ t2) {q : Nat} (e1 : v1.ownBlock = some q) : v2.ownBlock ≠ some q := by
  intro e2
  rcases h1.2 with ⟨rfl, _⟩ | ⟨g1, c1, cur1, rfl, _, hg1, _⟩
  · simp [Value.ownBlock] at e1
  · rcases h2.2 with ⟨rfl, _⟩ | ⟨g2, c2, cur2, rfl, _, hg2, _⟩
    · simp [Value.ownBlock] at e2
    · have h3 : g1 = q := by simpa [Value.ownBlock] using e1
      have h4 : g2 = q := by simpa [Value.ownBlock] using e2
      subst h3 h4
      rw [hg1] at hg2
      simp only [Option.some.injEq, Obj.cells.injEq] at hg2
      exact ht hg2.2.1
theorem TwoA.int {w0 w w4 : World} {V : Nat → Prop} {Ns : List Int} {Gs : List (List Int)} {va vb v' : Value} {cs : List Value} {x : Int} (o : Obj) (hV : ∀ q, V q → q < w0.heap.size) (h : TwoA w0 w V Ns Gs va vb cs)
    (ho : w4.ownsRow w0.heap.size 3 1 v' (Ns.length + 1) (Ns.map (Value.int .i64) ++ [.int .i64 x])) (hg : (w.alloc o).grownBy w4 va.ownBlock) : TwoA w0 w4 V (Ns ++ [x]) Gs v' vb cs := by
  have hb := h.rows.b.size
  have f : Fr w w4 (fun q => va.ownBlock = some q) := ((Fr.refl w _).al o).on ((Fr.of_grown hg).mono (fun q _ h => h.symm))
  refine ⟨by rw [List.length_append, List.map_append]; exact ho, ⟨Fr.own h.rows.own f (fun q hq e => own_ne h.ints h.rows.own (by decide) e hq), h.rows.cel.fr f (fun q hq e => ?_), h.rows.b.trans (f.below (fun q hq => (World.ownsRow.lt h.ints q hq).1) hb)⟩⟩
  have := (World.ownsRow.lt h.ints q e).1
  have := hV q hq
  omega
theorem TwoA.row {w0 w w4 : World} {V : Nat → Prop} {Ns : List Int} {Gs : List (List Int)} {va vb v' : Value} {cs : List Value} {q : Option Addr} {c : Nat} {xs : List Int} (o : Obj) (hV : ∀ q, V q → q < w0.heap.size) (h : TwoA w0 w V Ns Gs va vb cs) (hn : NumsD w V q xs)
    (ho : w4.ownsRow w0.heap.size 55 1 v' (Gs.length + 1) (cs ++ [.slice q xs.length c])) (hg : (w.alloc o).grownBy w4 vb.ownBlock) : TwoA w0 w4 V Ns (Gs ++ [xs]) va v' (cs ++ [.slice q xs.length c]) := by
  have f : Fr w w4 (fun q => vb.ownBlock = some q) := ((Fr.refl w _).al o).on ((Fr.of_grown hg).mono (fun q _ h => h.symm))
  exact ⟨Fr.own h.ints f (fun q hq e => own_ne h.rows.own h.ints (by decide) e hq), h.rows.push o hV hn ho hg⟩
theorem nums_own {w : World} {B : Nat} {a : Option Addr} {n c : Nat} {xs : List Int} {V : Nat → Prop} (h : w.ownsRow B 3 1 (.slice a n c) xs.length (xs.map (Value.int .i64))) (hV : ∀ q, B ≤ q → V q) : NumsD w V a xs := by
  have h0 := h
  rcases h.2 with ⟨e, e'⟩ | ⟨g, cap, cur, e, hb, hg, _⟩
  · have : xs = [] := List.length_eq_zero_iff.1 e'
    subst this
    exact numsD_nil _ _ _
  · obtain ⟨rfl, rfl, rfl⟩ : a = some ⟨g, 0, none⟩ ∧ n = xs.length ∧ c = cap := by
      simp only [Value.slice.injEq] at e; exact e
    refine ⟨fun p hp => ⟨g, 0, rfl, (Array.getElem?_eq_some_iff.1 hg).1, ?_⟩, fun p hp _ => by cases hp; exact hV _ hb⟩
    rw [Nat.zero_add, h0.cellAt _ (by omega)]
    simp [hp]
/-- the document's reader as a value -/
def docV (nodes to at_ gone : Int) (nv gv : Value) : Value := .agg #[.int .i64 nodes, .int .i64 to, .int .i64 at_, .int .i64 gone, nv, gv]
/-- what Told leaves of the document's reader -/
def DocR (w : World) (V : Nat → Prop) (nodes to at_ gone : Int) (LG : List (Int × List Int)) (e : Ending) (w' : World) : Prop :=
  ∃ an cn ag cg, e = .returned (docV nodes to at_ gone (.slice an LG.length cn) (.slice ag LG.length cg)) ∧ NumsD w' (fun q => V q ∨ w.heap.size ≤ q) an (LG.map (·.1)) ∧ RwsD w' (fun q => V q ∨ w.heap.size ≤ q) ag (LG.map (·.2)) ∧ Below w.heap.size w w'
/-- the document's reader in a block -/
structure DocA (w : World) (V : Nat → Prop) (an ag : Option Addr) (LG : List (Int × List Int)) : Prop where
  n : NumsD w V an (LG.map (·.1))
  g : RwsD w V ag (LG.map (·.2))
theorem DocA.next {w w' : World} {V : Nat → Prop} {an ag : Option Addr} {LG : List (Int × List Int)} (h : DocA w V an ag LG) (b : Below w.heap.size w w') : DocA w' V an ag LG := ⟨h.n.next b, h.g.next b⟩
theorem boxes58 (w : World) (nodes to at_ gone : Int) (nv gv : Value) : ∃ w1, w1 = (w.alloc (.cells #[.int .i64 nodes, .int .i64 to, .int .i64 at_, .int .i64 gone, nv, gv] 58)).alloc (.cells #[.int .i64 0, .int .i64 0, .int .i64 0, .int .i64 0, .slice none 0 0, .slice none 0 0] 58) ∧
    Blk w1 w.heap.size 58 #[.int .i64 nodes, .int .i64 to, .int .i64 at_, .int .i64 gone, nv, gv] ∧ Blk w1 (w.heap.size + 1) 58 #[.int .i64 0, .int .i64 0, .int .i64 0, .int .i64 0, .slice none 0 0, .slice none 0 0] ∧ Below w.heap.size w w1 ∧ w1.heap.size = w.heap.size + 1 + 1 :=
  ⟨_, rfl, (Blk.new w 58 _).below ((Below.refl _ _).alloc (Nat.le_refl _) _), by have := Blk.new (w.alloc (.cells #[.int .i64 nodes, .int .i64 to, .int .i64 at_, .int .i64 gone, nv, gv] 58)) 58 #[.int .i64 0, .int .i64 0, .int .i64 0, .int .i64 0, .slice none 0 0, .slice none 0 0]; simpa using this, ((Below.refl w.heap.size w).alloc (Nat.le_refl _) _).alloc (by simp) _, by simp⟩
theorem below6 {B Y : Nat} {w w3 : World} (h : Below B w w3) (hB : B ≤ Y) (a b c d e f : Value) : Below B w ((((((w3.setCell ⟨Y, 0, none⟩ a).setCell ⟨Y, 1, none⟩ b).setCell ⟨Y, 2, none⟩ c).setCell ⟨Y, 3, none⟩ d).setCell ⟨Y, 4, none⟩ e).setCell ⟨Y, 5, none⟩ f) :=
  (below5 h hB a b c d e).setCell (p := ⟨Y, 5, none⟩) hB _
set_option maxHeartbeats 4000000 in
set_option maxRecDepth 100000 in
theorem rtold_gone {w : World} {V : Nat → Prop} {nodes to at_ gone : Int} {an ag : Option Addr} {cn cg : Nat} {LG : List (Int × List Int)} (a : Option Addr) (m c : Nat) (n : Int) (h : DocA w V an ag LG) (ha : 0 ≤ at_ ∧ 0 ≤ gone ∧ gone ≤ at_) (hn : n ≤ 9223372036854775807) (h1 : at_ < n) :
    Calls Try.prog 19 #[docV nodes to at_ gone (.slice an LG.length cn) (.slice ag LG.length cg), .slice a m c, .int .i64 n, .int .i64 180] w (DocR w V nodes to n (gone + (n - at_)) LG) := by
  have F9 : Hid (∀ o1 o2, DocR w V nodes to n (gone + (n - at_)) LG (.returned (docV nodes to n (gone + (n - at_)) (.slice an LG.length cn) (.slice ag LG.length cg))) ((w.alloc o1).alloc o2)) := Lib.hid (fun o1 o2 => by
    have b : Below w.heap.size w ((w.alloc o1).alloc o2) := ((Below.refl w.heap.size w).alloc (Nat.le_refl _) _).alloc (by simp) _
    exact ⟨an, cn, ag, cg, rfl, (h.n.next b).mono (fun _ hq => .inl hq), (h.g.next b).mono (fun _ hq => .inl hq), b⟩)
  obtain ⟨ha0, ha1, ha2⟩ := ha
  have hww : wrap64 (wrap64 (gone + n) - at_) = gone + (n - at_) := by unfold wrap64; omega
  unfold docV at F9 ⊢
  generalize DocR w V nodes to n (gone + (n - at_)) LG = Q at *
  clear h
  generalize LG.length = r at *
  generalize gone + (n - at_) = g2 at *
  go_enter Try.func19, Try.ntmps19
  go_wp2_with fail
  refine bodyPost_ret (by simp [results, Try.results19, go_sem]; try rfl) rfl ?_
  exact F9.out _ _
set_option maxHeartbeats 4000000 in
set_option maxRecDepth 100000 in
theorem rtold_next {w : World} {V : Nat → Prop} {nodes to at_ gone : Int} {an ag : Option Addr} {cn cg : Nat} {LG : List (Int × List Int)} (a : Option Addr) (m c : Nat) (n e : Int) (h : DocA w V an ag LG) (ht : 0 ≤ to ∧ to ≤ 100) (ha : 0 ≤ at_) (hn : n ≤ 9223372036854775807)
    (h0 : e = 0 → ¬ (at_ ≤ n ∧ n - at_ = (m : Int))) (h1 : e = 180 → ¬ at_ < n) :
    Calls Try.prog 19 #[docV nodes to at_ gone (.slice an LG.length cn) (.slice ag LG.length cg), .slice a m c, .int .i64 n, .int .i64 e] w (DocR w V nodes (nextN to nodes) at_ gone LG) := by
  have F9 : Hid (∀ o1 o2, DocR w V nodes (nextN to nodes) at_ gone LG (.returned (docV nodes (nextN to nodes) at_ gone (.slice an LG.length cn) (.slice ag LG.length cg))) ((w.alloc o1).alloc o2)) := Lib.hid (fun o1 o2 => by
    have b : Below w.heap.size w ((w.alloc o1).alloc o2) := ((Below.refl w.heap.size w).alloc (Nat.le_refl _) _).alloc (by simp) _
    exact ⟨an, cn, ag, cg, rfl, (h.n.next b).mono (fun _ hq => .inl hq), (h.g.next b).mono (fun _ hq => .inl hq), b⟩)
  have NX := Lib.hid (fun W => rnext_any to nodes W ht)
  unfold docV at F9 ⊢
  generalize DocR w V nodes (nextN to nodes) at_ gone LG = Q at *
  clear h
  generalize LG.length = r at *
  generalize nextN to nodes = nx at *
  by_cases he : e = 0
  · subst he
    by_cases hl : at_ ≤ n
    · have hd : decide (at_ ≤ n) = true := decide_eq_true hl
      have hw : wrap64 (n - at_) = n - at_ := by unfold wrap64; omega
      have hq : (n - at_ == (m : Int)) = false := by
        rw [beq_eq_false_iff_ne]
        intro h; exact h0 rfl ⟨hl, h⟩
      clear h0 h1
      go_enter Try.func19, Try.ntmps19
      go_wp2_with fail
      refine (NX.out _).mono ?_
      rintro e w2 ⟨rfl, rfl⟩
      go_wp2_with fail
      refine bodyPost_ret (by simp [results, Try.results19, go_sem]; try rfl) rfl ?_
      exact F9.out _ _
    · have hd : decide (at_ ≤ n) = false := decide_eq_false hl
      clear h0 h1
      go_enter Try.func19, Try.ntmps19
      go_wp2_with fail
      refine (NX.out _).mono ?_
      rintro e w2 ⟨rfl, rfl⟩
      go_wp2_with fail
      refine bodyPost_ret (by simp [results, Try.results19, go_sem]; try rfl) rfl ?_
      exact F9.out _ _
  · have he0 : (e == 0) = false := by rw [beq_eq_false_iff_ne]; exact he
    by_cases he1 : e = 180
    · subst he1
      have hd : decide (at_ < n) = false := decide_eq_false (h1 rfl)
      clear h0 h1 he he0
      go_enter Try.func19, Try.ntmps19
      go_wp2_with fail
      refine (NX.out _).mono ?_
      rintro e w2 ⟨rfl, rfl⟩
      go_wp2_with fail
      refine bodyPost_ret (by simp [results, Try.results19, go_sem]; try rfl) rfl ?_
      exact F9.out _ _
    · have he2 : (e == 180) = false := by rw [beq_eq_false_iff_ne]; exact he1
      clear h0 h1 he he1
      go_enter Try.func19, Try.ntmps19
      go_wp2_with fail
      refine (NX.out _).mono ?_
      rintro e w2 ⟨rfl, rfl⟩
      go_wp2_with fail
      refine bodyPost_ret (by simp [results, Try.results19, go_sem]; try rfl) rfl ?_
      exact F9.out _ _
end Go.Proofs.Ytggjpallbapcmaa
