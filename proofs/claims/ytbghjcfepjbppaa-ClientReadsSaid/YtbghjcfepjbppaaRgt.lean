/-
  WHAT A READER GOT, COPIED: Got.
-/
import Derived.Test.YtbghjcfepjbppaaRtk
namespace Go.Proofs.Ytbghjcfepjbppaa
open Go.RowKit
/-- matches with their numbers that the call made -/
structure GoA (w0 w : World) (LG : List (Int × List Int)) (gv : Value) (cs : List Value) : Prop where
  own : w.ownsRow w0.heap.size 72 2 gv LG.length cs
  gc : ∀ i (h : i < LG.length), ∃ q c, cs[i * 2]? = some (.int .i64 LG[i].1) ∧ cs[i * 2 + 1]? = some (.slice q LG[i].2.length c) ∧ Bk.Nums w q LG[i].2 ∧ ∀ p, q = some p → w0.heap.size ≤ p.block ∧ p.block < w.heap.size ∧ gv.ownBlock ≠ some p.block
  b : Below w0.heap.size w0 w
theorem goA_nil (w0 w : World) (b : Below w0.heap.size w0 w) : GoA w0 w [] (.slice none 0 0) [] := ⟨World.ownsRow_nil _ _ _ _, fun i h => by simp at h, b⟩
theorem GoA.push {w0 w v w4 : World} {LG : List (Int × List Int)} {gv : Value} {cs : List Value} {a' : Option Addr} {c' g cap : Nat} {n : Int} {xs : List Int} (o : Obj) (h : GoA w0 w LG gv cs) (bv : Below w.heap.size w v)
    (hn : Bk.Nums v a' xs) (ha : ∀ ad, a' = some ad → w.heap.size ≤ ad.block ∧ ad.block < v.heap.size)
    (ho : w4.ownsRow w0.heap.size 72 2 (.slice (some ⟨g, 0, none⟩) (LG.length + 1) cap) (LG.length + 1) (cs ++ [.int .i64 n, .slice a' xs.length c'])) (hg : (v.alloc o).grownBy w4 gv.ownBlock) (hat : gv.ownBlock = some g ∨ g = (v.alloc o).heap.size) :
    GoA w0 w4 (LG ++ [(n, xs)]) (.slice (some ⟨g, 0, none⟩) (LG.length + 1) cap) (cs ++ [.int .i64 n, .slice a' xs.length c']) := by
  have hgl : ∀ q, gv.ownBlock = some q → w0.heap.size ≤ q ∧ q < w.heap.size := fun q hq => World.ownsRow.lt h.own q hq
  have hs1 : (v.alloc o).heap.size = v.heap.size + 1 := by simp
  have hvs := bv.size
  have f0 : Fr w (v.alloc o) (fun q => gv.ownBlock = some q) := (Fr.of_below bv _).al o
  have f1 : Fr (v.alloc o) w4 (fun q => gv.ownBlock = some q) := (Fr.of_grown hg).mono (fun q _ h => h.symm)
  have f2 : Fr w w4 (fun q => gv.ownBlock = some q) := f0.on f1
  have h6 := f2.size
  have h7 := f1.size
  have hb6 := h.b.size
  have avg : ∀ ad, a' = some ad → ad.block ≠ g := fun ad e => by
    have h1 := ha ad e
    rcases hat with e' | e'
    · have := hgl g e'; omega
    · omega
  refine ⟨by rw [List.length_append]; exact ho, fun i hi => ?_, h.b.trans (f2.below (fun q hq => (hgl q hq).1) hb6)⟩
  rw [List.length_append] at hi
  simp only [List.length_cons, List.length_nil] at hi
  have hcl : cs.length = LG.length * 2 := h.own.1
  rcases Nat.lt_or_ge i LG.length with h1 | h1
  · obtain ⟨q, c, e0, e1, nn, hb⟩ := h.gc i h1
    rw [List.getElem_append_left h1, List.getElem?_append_left (by omega), List.getElem?_append_left (by omega)]
    refine ⟨q, c, e0, e1, nums_fr nn f2 (fun ad e hh => (hb ad e).2.2 hh), fun p hp => ⟨(hb p hp).1, by have := (hb p hp).2.1; omega, ?_⟩⟩
    intro hh
    have hpg : g = p.block := by simpa [Value.ownBlock] using hh
    rcases hat with e' | e'
    · exact (hb p hp).2.2 (by rw [e', hpg])
    · have := (hb p hp).2.1; omega
  · obtain rfl : i = LG.length := by omega
    rw [List.getElem_append_right (Nat.le_refl _), List.getElem?_append_right (by omega), List.getElem?_append_right (by omega)]
    simp only [Nat.sub_self, List.getElem_cons_zero]
    rw [show LG.length * 2 - cs.length = 0 by omega, show LG.length * 2 + 1 - cs.length = 1 by omega]
    refine ⟨a', c', rfl, rfl, nums_fr (nums_fr hn ((Fr.refl v (fun q => gv.ownBlock = some q)).al o) (fun ad e hh => by have := hgl _ hh; have := ha ad e; omega)) f1 (fun ad e hh => by have := hgl _ hh; have := ha ad e; omega), fun p hp => ⟨by have := (ha p hp).1; omega, by have := (ha p hp).2; omega, ?_⟩⟩
    intro hh
    have hpg : g = p.block := by simpa [Value.ownBlock] using hh
    exact avg p hp hpg.symm
theorem GoA.next {w0 w w' : World} {LG : List (Int × List Int)} {gv : Value} {cs : List Value} (h : GoA w0 w LG gv cs) (b : Below w.heap.size w w') : GoA w0 w' LG gv cs := by
  refine ⟨Fr.own h.own (Fr.of_below b (fun _ => False)) (fun _ _ h => h), fun i hi => ?_, h.b.trans (b.mono h.b.size)⟩
  obtain ⟨q, c, e0, e1, nn, hb⟩ := h.gc i hi
  exact ⟨q, c, e0, e1, nn.next b, fun p hp => ⟨(hb p hp).1, Nat.lt_of_lt_of_le (hb p hp).2.1 b.size, (hb p hp).2.2⟩⟩
/-- matches with their numbers that can be read -/
def Grw (w : World) (a : Option Addr) (LG : List (Int × List Int)) : Prop := ∀ i (h : i < LG.length), ∃ g q c, a = some ⟨g, 0, none⟩ ∧ g < w.heap.size ∧ w.cell? ⟨g, i * 2, none⟩ = some (.int .i64 LG[i].1) ∧ w.cell? ⟨g, i * 2 + 1, none⟩ = some (.slice q LG[i].2.length c) ∧ Bk.Nums w q LG[i].2
theorem grw_own {w : World} {B : Nat} {a : Option Addr} {n c : Nat} {cs : List Value} {LG : List (Int × List Int)} (ho : w.ownsRow B 72 2 (.slice a n c) LG.length cs)
    (gc : ∀ i (h : i < LG.length), ∃ q c, cs[i * 2]? = some (.int .i64 LG[i].1) ∧ cs[i * 2 + 1]? = some (.slice q LG[i].2.length c) ∧ Bk.Nums w q LG[i].2) : Grw w a LG := by
  intro i hi
  obtain ⟨q, cq, e0, e1, nn⟩ := gc i hi
  have hcl : cs.length = LG.length * 2 := ho.1
  have h0 := ho
  rcases ho.2 with ⟨_, e3⟩ | ⟨g, cap, cur, e3, hb, hg, _⟩
  · omega
  · obtain ⟨rfl, rfl, rfl⟩ : a = some ⟨g, 0, none⟩ ∧ n = LG.length ∧ c = cap := by
      simp only [Value.slice.injEq] at e3; exact e3
    exact ⟨g, q, cq, rfl, (Array.getElem?_eq_some_iff.1 hg).1, by rw [h0.cellAt _ (by omega)]; exact e0, by rw [h0.cellAt _ (by omega)]; exact e1, nn⟩
/-- what Got answers -/
def Glst (w : World) (LG : List (Int × List Int)) (e : Ending) (w' : World) : Prop := ∃ a' c', e = .returned (.slice a' LG.length c') ∧ Grw w' a' LG ∧ Below w.heap.size w w'
set_option maxHeartbeats 4000000 in
set_option maxRecDepth 100000 in
theorem rgot_any {w : World} {U : Nat → Prop} {t : Nat} {nodes to : Int} {nm : ByteArray} {most at_ gone : Int} {LG : List (Int × List Int)}
    (h : RdM w U t nodes to nm most at_ gone LG) (hS : ∀ x ∈ LG, x.2.length ≤ 17592186043904) (hg : LG.length ≤ 5000) :
    Calls Try.prog 26 #[.pointer (some ⟨t, 0, none⟩)] w (Glst w LG) := by
  obtain ⟨i72, hi, hz0, hz1, hz2⟩ := info_parts info72
  obtain ⟨gv, cs0, A⟩ := h
  obtain ⟨ua0, uc0, rfl⟩ := own_slice A.own
  have SRC : Hid (∀ wr, Below w.heap.size w wr → ∀ j (hj : j < LG.length), ∃ g q c, ua0 = some ⟨g, 0, none⟩ ∧ wr.cell? ⟨g, j * 2, none⟩ = some (.int .i64 LG[j].1) ∧ wr.cell? ⟨g, j * 2 + 1, none⟩ = some (.slice q LG[j].2.length c) ∧ Bk.Nums wr q LG[j].2) := Lib.hid (by
    intro wr b j hj
    have A1 := A.fr (P := fun _ => False) (Fr.of_below b _) (fun _ hf => hf.elim)
    obtain ⟨g, q, c, e, _, k0, k1, nn⟩ := grw_own A1.own (fun i hi => by obtain ⟨q, c, e0, e1, nn, _⟩ := A1.gc i hi; exact ⟨q, c, e0, e1, nn⟩) j hj
    exact ⟨g, q, c, e, k0, k1, nn⟩)
  have c6 : w.cell? ⟨t, 6, none⟩ = some (.slice ua0 LG.length uc0) := A.blk.cell 6
  have Sh := Lib.hid hS
  have R0 : Hid (GoA w w [] (.slice none 0 0) []) := Lib.hid (goA_nil w w (Below.refl _ _))
  obtain ⟨n, hn⟩ : ∃ n, n = LG.length := ⟨_, rfl⟩
  have HN := Lib.hid hn
  rw [← hn] at hg c6
  have hgI : (n : Int) ≤ 5000 := by omega
  clear A hS hn
  go_enter Try.func26, Try.ntmps26
  go_wp2_with fail
  go_loopw [2, 12] (fun v i wr => ∃ (j : Nat) (cs : List Value), i = .int .i64 j ∧ j ≤ n ∧ Hid (GoA w wr (LG.take j) v cs))
    (fun v i wr => n - (intOf i).toNat)
  case atStart => exact ⟨0, [], rfl, Nat.zero_le _, R0⟩
  case round =>
    obtain ⟨j, cs, rfl, hj, hR⟩ := hrel
    clear R0 c6
    have ljn : (LG.take j).length = j := by rw [List.length_take, Nat.min_eq_left (by rw [← HN.out]; exact hj)]
    have O1 := hR.out.own
    rw [ljn] at O1
    obtain ⟨va, vc, rfl⟩ := own_slice O1
    by_cases hjn : j < n
    · have jI : (j : Int) < (n : Int) := by omega
      have jB := decide_eq_true jI
      have hjL : j < LG.length := by rw [← HN.out]; exact hjn
      obtain ⟨x, hx⟩ : ∃ x, x = LG[j]'hjL := ⟨_, rfl⟩
      have hTk : LG.take (j + 1) = LG.take j ++ [x] := by rw [hx]; exact List.take_succ_eq_append_getElem hjL
      have hxm : x ∈ LG := by rw [hx]; exact List.getElem_mem hjL
      have hsm := Sh.out x hxm
      obtain ⟨g0, q0, k0, rfl, ck0, ck1, nn⟩ := SRC.out wr hR.out.b j hjL
      rw [← hx] at ck0 ck1 nn
      obtain ⟨xn, xs⟩ := x
      simp only at ck0 ck1 nn hsm
      obtain ⟨W1, hW1, X1, B1⟩ : ∃ W1, W1 = wr.alloc (.cells #[.int .i64 xn, .slice q0 xs.length k0] 72) ∧ Blk W1 wr.heap.size 72 #[.int .i64 xn, .slice q0 xs.length k0] ∧ Below wr.heap.size wr W1 := ⟨_, rfl, Blk.new _ _ _, (Below.refl _ _).alloc (Nat.le_refl _) _⟩
      have GT := Lib.hid (got_any (w := W1) xn k0 (nn.next B1) hsm)
      have PU := Lib.hid (fun (v w4 : World) (a' : Option Addr) (c' g cap : Nat) (o : Obj) bv hn ha ho hg hat => (hR.out.next B1).push (v := v) (w4 := w4) (a' := a') (c' := c') (g := g) (cap := cap) (n := xn) (xs := xs) o bv hn ha ho hg hat)
      have OW := Lib.hid (fun (v : World) (bv : Below W1.heap.size W1 v) => Fr.own (hR.out.next B1).own (Fr.of_below bv (fun _ => False)) (fun _ _ h => h))
      have hbs := Nat.le_trans hR.out.b.size B1.size
      rw [ljn] at PU OW
      rw [← hTk] at PU
      have X1h := Lib.hid X1
      have W1h := Lib.hid hW1
      have x0 : W1.cell? ⟨wr.heap.size, 0, none⟩ = some (.int .i64 xn) := X1.cell 0
      have x1 : W1.cell? ⟨wr.heap.size, 1, none⟩ = some (.slice q0 xs.length k0) := X1.cell 1
      clear hR O1 X1 B1 hW1 nn hsm hxm hTk hx
      unfold GotR at GT
      generalize xs.length = m at *
      go_wp2_with fail
      rw [← W1h.out]
      go_wp2_with fail
      refine GT.out.mono ?_
      rintro r9 v2 ⟨a2, c2, rfl, nn2, hp2, b2⟩
      have BV := Lib.hid b2
      have nn2 := Lib.hid nn2
      have hp2 := Lib.hid hp2
      have OW2 := Lib.hid (OW.out v2 b2)
      have hb2 := Nat.le_trans hbs b2.size
      clear b2 GT x0 x1 ck0 ck1
      go_wp2_with (at_builtin; refine wpList_append_lies _ rfl (.tmp 16) (.tmp 22) 67 rfl w.heap.size 72 i72 (.agg #[.int .i64 0, .slice none 0 0]) 2 32 Try.underlying67 hi hz0 hz1 hz2 rfl (by decide) (.slice va j vc) j cs rfl (World.ownsRow.alloc OW2.out _) ⟨v2.heap.size, 0, none⟩ 1 1 [.int .i64 xn, .slice a2 m c2] rfl rfl (World.news_of_block (cs := #[.int .i64 xn, .slice a2 m c2]) (heap_alloc_new v2 _)) (one_got _ a2 m c2) (by decide) (by unfold maxLen; omega) (by omega) (by simp; omega) _ rfl ?_; intro g4 cap4 w4 ho4 hg4 hat4 _; have K4h := Lib.hid (PU.out v2 w4 a2 c2 g4 cap4 _ BV.out nn2.out hp2.out ho4 hg4 hat4); clear ho4 hg4 hat4)
      go_roundw
      case rel => exact ⟨j + 1, _, by go_num, by omega, K4h⟩
      case measure => simp [intOf]; omega
    · obtain rfl : j = n := by omega
      have jI : ¬ (j : Int) < (j : Int) := by omega
      have hT : LG.take j = LG := List.take_of_length_le (Nat.le_of_eq HN.out.symm)
      have R9 : Hid (GoA w wr LG (.slice va j vc) cs) := Lib.hid (by have := hR.out; rw [hT] at this; exact this)
      have F9 : Hid (Glst w LG (.returned (.slice va j vc)) wr) := Lib.hid ⟨va, vc, by rw [← HN.out], grw_own R9.out.own (fun i hi => by obtain ⟨q, c, e0, e1, nn, _⟩ := R9.out.gc i hi; exact ⟨q, c, e0, e1, nn⟩), R9.out.b⟩
      clear hR O1 R9
      generalize Glst w LG = Q at *
      go_wp2_with fail
      (try go_ret)
      exact F9.out
end Go.Proofs.Ytbghjcfepjbppaa
