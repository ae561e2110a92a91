/-
  WHAT THE ROWS REST ON, part 10: Rdm Rtk Rtl.
-/
import Derived.Deep.LoopGhost
import Derived.LoopTactic
import Derived.Test.YtggjpallbapcmaaPart9
/-
  WHAT A READER GOT, IN MEMORY.
-/
namespace Go.Proofs.Ytggjpallbapcmaa
open Go.RowKit
/-- matches by their numbers, from one on -/
def numb : Int → List (List Int) → List (Int × List Int)
  | _, [] => []
  | a, x :: l => (a, x) :: numb (a + 1) l
theorem numb_len : ∀ (a : Int) (l : List (List Int)), (numb a l).length = l.length
  | _, [] => rfl
  | a, x :: l => by show (numb (a + 1) l).length + 1 = l.length + 1; rw [numb_len]
theorem numb_one : ∀ (a : Int) (l : List (List Int)) (x : List Int), numb a (l ++ [x]) = numb a l ++ [(a + (l.length : Int), x)]
  | a, [], x => by simp [numb]
  | a, y :: l, x => by
    show (a, y) :: numb (a + 1) (l ++ [x]) = (a, y) :: numb (a + 1) l ++ [(a + ((l.length + 1 : Nat) : Int), x)]
    rw [numb_one (a + 1) l x, show a + ((l.length + 1 : Nat) : Int) = a + 1 + (l.length : Int) by omega]
    rfl
theorem numb_take {a : Int} {l : List (List Int)} {j : Nat} (h : j < l.length) : numb a (l.take (j + 1)) = numb a (l.take j) ++ [(a + (j : Int), l[j])] := by
  rw [List.take_succ_eq_append_getElem h, numb_one, List.length_take, Nat.min_eq_left (Nat.le_of_lt h)]
/-- a reader in memory, its blocks U -/
structure RdA (w : World) (U : Nat → Prop) (t : Nat) (nodes to : Int) (nm : ByteArray) (most at_ gone : Int) (LG : List (Int × List Int)) (gv : Value) (cs : List Value) : Prop where
  blk : Blk w t 119 (rdr nodes to nm most at_ gone gv)
  own : w.ownsRow 0 72 2 gv LG.length cs
  gvt : ∀ q, gv.ownBlock = some q → q ≠ t
  gc : ∀ i (h : i < LG.length), ∃ q c, cs[i * 2]? = some (.int .i64 LG[i].1) ∧ cs[i * 2 + 1]? = some (.slice q LG[i].2.length c) ∧ Bk.Nums w q LG[i].2 ∧ ∀ p, q = some p → U p.block ∧ p.block ≠ t ∧ gv.ownBlock ≠ some p.block
  ut : U t
  ug : ∀ q, gv.ownBlock = some q → U q
  ul : ∀ q, U q → q < w.heap.size
def RdM (w : World) (U : Nat → Prop) (t : Nat) (nodes to : Int) (nm : ByteArray) (most at_ gone : Int) (LG : List (Int × List Int)) : Prop := ∃ gv cs, RdA w U t nodes to nm most at_ gone LG gv cs
section
variable {w w' : World} {U : Nat → Prop} {t : Nat} {nodes to : Int} {nm : ByteArray} {most at_ gone : Int} {LG : List (Int × List Int)} {gv : Value} {cs : List Value}
theorem RdA.fr {P : Nat → Prop} (h : RdA w U t nodes to nm most at_ gone LG gv cs) (f : Fr w w' P) (hP : ∀ q, P q → ¬ U q) : RdA w' U t nodes to nm most at_ gone LG gv cs where
  blk := h.blk.fr f (fun e => hP _ e h.ut)
  own := Fr.own h.own f (fun q hq e => hP _ e (h.ug q hq))
  gvt := h.gvt
  gc := fun i hi => by
    obtain ⟨q, c, e0, e1, nn, hb⟩ := h.gc i hi
    exact ⟨q, c, e0, e1, nums_fr nn f (fun ad e hh => hP _ hh (hb ad e).1), hb⟩
  ut := h.ut
  ug := h.ug
  ul := fun q hq => Nat.lt_of_lt_of_le (h.ul q hq) f.size
theorem RdM.fr {P : Nat → Prop} (h : RdM w U t nodes to nm most at_ gone LG) (f : Fr w w' P) (hP : ∀ q, P q → ¬ U q) : RdM w' U t nodes to nm most at_ gone LG := by
  obtain ⟨gv, cs, h⟩ := h
  exact ⟨gv, cs, h.fr f hP⟩
theorem RdM.next (h : RdM w U t nodes to nm most at_ gone LG) (b : Below w.heap.size w w') : RdM w' U t nodes to nm most at_ gone LG := by
  exact h.fr (P := fun _ => False) (Fr.of_below b _) (fun _ hf => hf.elim)
/-- the reader's own block is changed -/
theorem RdA.put {to' at' gone' : Int} (h : RdA w U t nodes to nm most at_ gone LG gv cs) (T : Blk w' t 119 (rdr nodes to' nm most at' gone' gv)) (f : Fr w w' (fun q => q = t)) : RdA w' U t nodes to' nm most at' gone' LG gv cs where
  blk := T
  own := Fr.own h.own f (fun q hq e => h.gvt q hq e)
  gvt := h.gvt
  gc := fun i hi => by
    obtain ⟨q, c, e0, e1, nn, hb⟩ := h.gc i hi
    exact ⟨q, c, e0, e1, nums_fr nn f (fun ad e hh => (hb ad e).2.1 hh), hb⟩
  ut := h.ut
  ug := h.ug
  ul := fun q hq => Nat.lt_of_lt_of_le (h.ul q hq) f.size
/-- what a call that changes the reader leaves -/
def Rch (w : World) (U : Nat → Prop) (t : Nat) (nodes to : Int) (nm : ByteArray) (most at_ gone : Int) (LG : List (Int × List Int)) (w' : World) : Prop :=
  ∃ U', RdM w' U' t nodes to nm most at_ gone LG ∧ Fr w w' U ∧ (∀ q, U' q → U q ∨ w.heap.size ≤ q)
theorem Rch.trans {w1 w2 : World} {to1 at1 gone1 : Int} {LG1 LG2 : List (Int × List Int)} {to2 at2 gone2 : Int} (h : Rch w U t nodes to1 nm most at1 gone1 LG1 w1)
    (k : ∀ U1, RdM w1 U1 t nodes to1 nm most at1 gone1 LG1 → Rch w1 U1 t nodes to2 nm most at2 gone2 LG2 w2) : Rch w U t nodes to2 nm most at2 gone2 LG2 w2 := by
  obtain ⟨U1, h1, f1, u1⟩ := h
  obtain ⟨U2, h2, f2, u2⟩ := k U1 h1
  refine ⟨U2, h2, f1.trans f2 (fun _ _ h => h) (fun q hq hh => ?_), fun q hq => ?_⟩
  · rcases u1 q hh with h | h
    · exact h
    · omega
  · rcases u2 q hq with h | h
    · exact u1 q h
    · exact .inr (Nat.le_trans f1.size h)
/-- one match more -/
theorem RdA.push {v w4 : World} {a' : Option Addr} {c' g cap : Nat} {xs : List Int} {u : Value} (o : Obj) (h : RdA w U t nodes to nm most at_ gone LG gv cs) (bv : Below w.heap.size w v)
    (hn : Bk.Nums v a' xs) (ha : ∀ ad, a' = some ad → w.heap.size ≤ ad.block ∧ ad.block < v.heap.size)
    (ho : w4.ownsRow 0 72 2 (.slice (some ⟨g, 0, none⟩) (LG.length + 1) cap) (LG.length + 1) (cs ++ [.int .i64 at_, .slice a' xs.length c'])) (hg : (v.alloc o).grownBy w4 gv.ownBlock) (hat : gv.ownBlock = some g ∨ g = (v.alloc o).heap.size) (hu : u = .slice (some ⟨g, 0, none⟩) (LG.length + 1) cap) :
    w4.frozen? ⟨t, 6, none⟩ = false ∧ w4.cell? ⟨t, 6, none⟩ = some gv ∧ (w4.setCell ⟨t, 6, none⟩ u).cell? ⟨t, 4, none⟩ = some (.int .i64 at_) ∧ (w4.setCell ⟨t, 6, none⟩ u).frozen? ⟨t, 4, none⟩ = false ∧
      ∀ at', Rch w U t nodes to nm most at' gone (LG ++ [(at_, xs)]) ((w4.setCell ⟨t, 6, none⟩ u).setCell ⟨t, 4, none⟩ (.int .i64 at')) := by
  subst hu
  have ht := h.ul t h.ut
  have hgl : ∀ q, gv.ownBlock = some q → q < w.heap.size := fun q hq => h.ul q (h.ug q hq)
  have hs1 : (v.alloc o).heap.size = v.heap.size + 1 := by simp
  have hvs := bv.size
  have f0 : Fr w (v.alloc o) (fun q => gv.ownBlock = some q) := (Fr.of_below bv _).al o
  have f1 : Fr (v.alloc o) w4 (fun q => gv.ownBlock = some q) := (Fr.of_grown hg).mono (fun q _ h => h.symm)
  have f2 : Fr w w4 (fun q => gv.ownBlock = some q) := f0.on f1
  have T4 : Blk w4 t 119 (rdr nodes to nm most at_ gone gv) := h.blk.fr f2 (fun e => h.gvt _ e rfl)
  have T5 : Blk (w4.setCell ⟨t, 6, none⟩ (.slice (some ⟨g, 0, none⟩) (LG.length + 1) cap)) t 119 (rdr nodes to nm most at_ gone (.slice (some ⟨g, 0, none⟩) (LG.length + 1) cap)) := T4.set 6 _
  refine ⟨T4.free 6, by rw [T4.cell]; rfl, T5.cell 4, T5.free 4, fun at' => ?_⟩
  have gt : g ≠ t := by
    rcases hat with e | e
    · exact h.gvt g e
    · omega
  have fin : Fr w4 ((w4.setCell ⟨t, 6, none⟩ (.slice (some ⟨g, 0, none⟩) (LG.length + 1) cap)).setCell ⟨t, 4, none⟩ (.int .i64 at')) (fun q => q = t) := (fr_set w4 t 6 _).set t 4 _ (.inl rfl)
  have hgw : g < w4.heap.size := (World.ownsRow.lt ho g rfl).2
  have av : ∀ ad, a' = some ad → ad.block ≠ t ∧ ad.block ≠ g ∧ ad.block < w4.heap.size := fun ad e => by
    have h1 := ha ad e
    have h2 := f1.size
    refine ⟨by omega, ?_, by omega⟩
    rcases hat with e' | e'
    · have := hgl g e'; omega
    · omega
  refine ⟨fun q => U q ∨ q = g ∨ ∃ ad, a' = some ad ∧ q = ad.block, ⟨.slice (some ⟨g, 0, none⟩) (LG.length + 1) cap, cs ++ [.int .i64 at_, .slice a' xs.length c'], ?_⟩, ?_, ?_⟩
  · refine { blk := T5.set 4 _, own := ?_, gvt := ?_, gc := ?_, ut := .inl h.ut, ug := ?_, ul := ?_ }
    · exact Fr.own (by rw [List.length_append]; exact ho) fin (fun q hq => by
        have : g = q := by simpa [Value.ownBlock] using hq
        omega)
    · intro q hq
      have : g = q := by simpa [Value.ownBlock] using hq
      omega
    · intro i hi
      rw [List.length_append] at hi
      simp only [List.length_cons, List.length_nil] at hi
      have hcl : cs.length = LG.length * 2 := h.own.1
      rcases Nat.lt_or_ge i LG.length with h1 | h1
      · obtain ⟨q, c, e0, e1, nn, hb⟩ := h.gc i h1
        rw [List.getElem_append_left h1, List.getElem?_append_left (by omega), List.getElem?_append_left (by omega)]
        refine ⟨q, c, e0, e1, nums_fr (nums_fr nn f2 (fun ad e hh => (hb ad e).2.2 hh)) fin (fun ad e hh => (hb ad e).2.1 hh), fun p hp => ⟨.inl (hb p hp).1, (hb p hp).2.1, ?_⟩⟩
        intro hh
        have hpg : g = p.block := by simpa [Value.ownBlock] using hh
        rcases hat with e' | e'
        · exact (hb p hp).2.2 (by rw [e', hpg])
        · have := h.ul _ (hb p hp).1; omega
      · obtain rfl : i = LG.length := by omega
        rw [List.getElem_append_right (Nat.le_refl _), List.getElem?_append_right (by omega), List.getElem?_append_right (by omega)]
        simp only [Nat.sub_self, List.getElem_cons_zero]
        rw [show LG.length * 2 - cs.length = 0 by omega, show LG.length * 2 + 1 - cs.length = 1 by omega]
        refine ⟨a', c', rfl, rfl, nums_fr (nums_fr (nums_fr hn ((Fr.refl v (fun q => gv.ownBlock = some q)).al o) (fun ad e hh => by have := hgl _ hh; have := ha ad e; omega)) f1 (fun ad e hh => by have := hgl _ hh; have := ha ad e; omega)) fin (fun ad e hh => (av ad e).1 hh), fun p hp => ⟨.inr (.inr ⟨p, hp, rfl⟩), (av p hp).1, ?_⟩⟩
        intro hh
        have hpg : g = p.block := by simpa [Value.ownBlock] using hh
        exact (av p hp).2.1 hpg.symm
    · intro q hq
      have : g = q := by simpa [Value.ownBlock] using hq
      exact .inr (.inl this.symm)
    · intro q hq
      have h5 : ((w4.setCell ⟨t, 6, none⟩ (.slice (some ⟨g, 0, none⟩) (LG.length + 1) cap)).setCell ⟨t, 4, none⟩ (.int .i64 at')).heap.size = w4.heap.size := by simp
      have h6 := f2.size
      rw [h5]
      rcases hq with hq | rfl | ⟨ad, e, rfl⟩
      · have := h.ul q hq; omega
      · exact hgw
      · exact (av ad e).2.2
  · exact (f2.mono (fun q _ hq => h.ug q hq)).on (fin.mono (fun q _ e => by subst e; exact h.ut))
  · intro q hq
    rcases hq with hq | rfl | ⟨ad, e, rfl⟩
    · exact .inl hq
    · rcases hat with e' | e'
      · exact .inl (h.ug _ e')
      · right; omega
    · exact .inr (ha ad e).1
end
end Go.Proofs.Ytggjpallbapcmaa
/-
  A READER TAKES MATCHES: take.
-/
namespace Go.Proofs.Ytggjpallbapcmaa
open Go.RowKit
theorem info72 : (Try.prog.info? 72).map (fun i => (i.zero, i.size, i.bytes)) = some (some (.agg #[.int .i64 0, .slice none 0 0]), 2, 32) := by kernel_rfl
theorem one_got (n : Int) (a : Option Addr) (m c : Nat) : ∀ u ∈ ([.int .i64 n, .slice a m c] : List Value), u.oneCell' = true := by
  intro u hu
  simp only [List.mem_cons, List.not_mem_nil, or_false] at hu
  rcases hu with rfl | rfl <;> rfl
theorem own_slice {w : World} {B t s n : Nat} {v : Value} {xs : List Value} (h : w.ownsRow B t s v n xs) : ∃ a c, v = .slice a n c := by
  rcases h.2 with ⟨rfl, e⟩ | ⟨g, cap, cur, rfl, _⟩
  · exact ⟨none, 0, by rw [e]⟩
  · exact ⟨_, _, rfl⟩
/-- lists that are short enough to be copied -/
def Small (LL : List (List Int)) : Prop := ∀ xs ∈ LL, xs.length ≤ 17592186043904
set_option maxHeartbeats 4000000 in
set_option maxRecDepth 100000 in
theorem take_any {w : World} {U : Nat → Prop} {t : Nat} {nodes to : Int} {nm : ByteArray} {most at_ gone : Int} {LG : List (Int × List Int)} {a : Option Addr} {LL : List (List Int)} (c : Nat)
    (h : RdM w U t nodes to nm most at_ gone LG) (RW : ∀ w', Fr w w' U → Bk.Rws w' a LL) (hS : Small LL) (hl : LL.length ≤ 20) (hg : LG.length ≤ 5000) (ha : 0 ≤ at_ ∧ at_ + (LL.length : Int) ≤ 9223372036854775807) :
    Calls Try.prog 55 #[.pointer (some ⟨t, 0, none⟩), .slice a LL.length c] w fun e w' => e = .returned (.tuple #[]) ∧ Rch w U t nodes to nm most (at_ + (LL.length : Int)) gone (LG ++ numb at_ LL) w' := by
  obtain ⟨i72, hi, hz0, hz1, hz2⟩ := info_parts info72
  have R0 : Hid (Rch w U t nodes to nm most at_ gone LG w) := Lib.hid ⟨U, h, Fr.refl _ _, fun q hq => .inl hq⟩
  have RWh := Lib.hid RW
  have Sh := Lib.hid hS
  obtain ⟨n, hn⟩ : ∃ n, n = LL.length := ⟨_, rfl⟩
  have HN := Lib.hid hn
  rw [← hn] at hl ha ⊢
  obtain ⟨ha0, ha1⟩ := ha
  clear h RW hS hn
  go_enter Try.func55, Try.ntmps55
  go_wp2_with fail
  go_loopw [8] (fun i wr => ∃ (j : Nat), i = .int .i64 j ∧ j ≤ n ∧ Hid (Rch w U t nodes to nm most (at_ + (j : Int)) gone (LG ++ numb at_ (LL.take j)) wr))
    (fun i wr => n - (intOf i).toNat)
  case atStart => exact ⟨0, rfl, Nat.zero_le _, by simpa [numb] using R0⟩
  case round =>
    obtain ⟨j, rfl, hj, hR⟩ := hrel
    clear R0
    by_cases hjn : j < n
    · have jI : (j : Int) < (n : Int) := by omega
      have jB := decide_eq_true jI
      have hjL : j < LL.length := by rw [← HN.out]; exact hjn
      obtain ⟨U1, ⟨gv, cs, A⟩, f1, u1⟩ := hR.out
      obtain ⟨ga, go_, qa, cq, rfl, hga, ck, nn⟩ := RWh.out wr f1 j hjL
      obtain ⟨ua, uc, rfl⟩ := own_slice A.own
      have hsm := Sh.out _ (List.getElem_mem hjL)
      obtain ⟨x, hx⟩ : ∃ x, x = LL[j]'hjL := ⟨_, rfl⟩
      rw [← hx] at hsm nn ck
      have NT : numb at_ (LL.take (j + 1)) = numb at_ (LL.take j) ++ [(at_ + (j : Int), x)] := by rw [hx]; exact numb_take hjL
      obtain ⟨W1, hW1, X1, B1⟩ : ∃ W1, W1 = wr.alloc (.cells #[.slice qa x.length cq] 70) ∧ Blk W1 wr.heap.size 70 #[.slice qa x.length cq] ∧ Below wr.heap.size wr W1 := ⟨_, rfl, Blk.new _ _ _, (Below.refl _ _).alloc (Nat.le_refl _) _⟩
      have A1 := A.fr (P := fun _ => False) (Fr.of_below B1 _) (fun _ hf => hf.elim)
      have GT := Lib.hid (got_any (w := W1.drew) (at_ + (j : Int)) cq (nn.next B1.drew) hsm)
      have PU := Lib.hid (fun (v w4 : World) (a' : Option Addr) (c' g cap : Nat) (o : Obj) bv hn ha ho hg hat => A1.push (v := v) (w4 := w4) (a' := a') (c' := c') (g := g) (cap := cap) (xs := x) o bv hn ha ho hg hat rfl)
      have OW := Lib.hid (fun (v : World) (bv : Below W1.heap.size W1 v) => Fr.own A1.own (Fr.of_below bv (fun _ => False)) (fun _ _ h => h))
      have TB := Lib.hid A1.blk
      have X1h := Lib.hid X1
      have W1h := Lib.hid hW1
      have htl : t < W1.heap.size := A1.blk.lt
      have hgl : LG.length + j ≤ 5020 := by omega
      have ln : (LG ++ numb at_ (LL.take j)).length = LG.length + j := by rw [List.length_append, numb_len, List.length_take, Nat.min_eq_left (Nat.le_of_lt hjL)]
      have FIN := Lib.hid (fun (w9 : World) (at' : Int) (e : at' = at_ + (j : Int) + 1) (k : Rch W1 U1 t nodes to nm most at' gone (LG ++ numb at_ (LL.take j) ++ [(at_ + (j : Int), x)]) w9) => show Rch w U t nodes to nm most (at_ + ((j + 1 : Nat) : Int)) gone (LG ++ numb at_ (LL.take (j + 1))) w9 from by
        rw [NT, ← List.append_assoc]
        rw [show at_ + ((j + 1 : Nat) : Int) = at' by omega]
        obtain ⟨U2, k1, k2, k3⟩ := k
        have fB : Fr wr W1 (fun _ => False) := Fr.of_below B1 _
        refine ⟨U2, k1, (f1.trans (fB.trans k2 (fun _ _ h => h.elim) (fun _ _ h => h) : Fr wr w9 U1) (fun _ _ h => h) (fun q hq hh => ?_)), fun q hq => ?_⟩
        · rcases u1 q hh with h | h
          · exact h
          · omega
        · rcases k3 q hq with h | h
          · exact u1 q h
          · exact .inr (Nat.le_trans f1.size (Nat.le_trans fB.size h)))
      have hwr : wrap64 (at_ + (j : Int) + 1) = at_ + (j : Int) + 1 := by unfold wrap64; omega
      clear hR A1 A nn hsm X1 B1 hW1 f1 u1 NT hx
      rw [ln] at PU OW TB
      clear ln
      unfold GotR at GT
      have HM := Lib.hid (rfl : x.length = x.length)
      generalize x.length = m at *
      have t6 : W1.drew.cell? ⟨t, 6, none⟩ = some (.slice ua (LG.length + j) uc) := TB.out.cell 6
      have t4 : W1.drew.cell? ⟨t, 4, none⟩ = some (.int .i64 (at_ + (j : Int))) := TB.out.cell 4
      have x0 : W1.drew.cell? ⟨wr.heap.size, 0, none⟩ = some (.slice qa m cq) := X1h.out.cell 0
      have hlI : (LG.length : Int) + (j : Int) ≤ 5020 := by omega
      generalize LG.length + j = r at *
      go_wp2_with fail
      rw [← W1h.out]
      go_region_law
        (first
          | (refine step_append_lies _ rfl (.tmp 16) (.tmp 23) 67 rfl 0 72 i72 (.agg #[.int .i64 0, .slice none 0 0]) 2 32 Try.underlying67 hi hz0 hz1 hz2 rfl (by decide) (.slice ua r uc) r cs rfl (World.ownsRow.alloc OW2.out _) ⟨v2.heap.size, 0, none⟩ 1 1 [.int .i64 (at_ + (j : Int)), .slice a2 m c2] rfl rfl (World.news_of_block (cs := #[.int .i64 (at_ + (j : Int)), .slice a2 m c2]) (heap_alloc_new v2 _)) (one_got _ a2 m c2) (by decide) (by unfold maxLen; omega) (by omega) (Nat.zero_le _) _ rfl ?_; intro g4 cap4 w4 ho4 hg4 hat4 _; obtain ⟨q1, q2, q3, q4, q5⟩ := PU.out v2 w4 a2 c2 g4 cap4 _ BV.out nn2.out hp2.out ho4 hg4 hat4; have K4h := Lib.hid (q5 (at_ + (j : Int) + 1)); clear q5 ho4 hg4 hat4)
          | (go_simp; go_at_call 56; refine GT.out.mono ?_; rintro r9 v2 ⟨a2, c2, rfl, nn2, hp2, b2⟩; have BV : Hid (Below W1.heap.size W1 v2) := Lib.hid ((Below.refl W1.heap.size W1).drew.trans b2); have OW2 := Lib.hid (OW.out v2 BV.out); have nn2 := Lib.hid nn2; have hp2 : Hid (∀ ad, a2 = some ad → W1.heap.size ≤ ad.block ∧ ad.block < v2.heap.size) := Lib.hid hp2; have c5 : v2.cell? ⟨t, 6, none⟩ = some (.slice ua r uc) := (TB.out.below BV.out).cell 6; have hTv : (⟨t, 6, none⟩ : Addr).block < v2.heap.size := (TB.out.below BV.out).lt; have c6 : ∀ o, (v2.alloc o).cell? ⟨t, 6, none⟩ = some (.slice ua r uc) := fun o => (World.cell?_alloc_lt _ _ _ hTv).trans c5; clear b2))
      all_goals (
        go_wp2_with fail
        go_roundw
        case rel => exact ⟨j + 1, by go_num, by omega, Lib.hid (FIN.out _ _ rfl K4h.out)⟩
        case measure => simp [intOf]; omega)
    · obtain rfl : j = n := by omega
      have jI : ¬ (j : Int) < (j : Int) := by omega
      have R9 : Hid (Rch w U t nodes to nm most (at_ + (j : Int)) gone (LG ++ numb at_ LL) wr) := Lib.hid (by
        have := hR.out
        rw [List.take_of_length_le (Nat.le_of_eq HN.out.symm)] at this
        exact this)
      clear hR
      go_wp2_with fail
      go_end0
      exact ⟨rfl, R9.out⟩
end Go.Proofs.Ytggjpallbapcmaa
/-
  A READER IS TOLD: Told; Late.
-/
namespace Go.Proofs.Ytggjpallbapcmaa
open Go.RowKit
section
variable {w : World} {U : Nat → Prop} {t : Nat} {nodes to : Int} {nm : ByteArray} {most at_ gone : Int} {LG : List (Int × List Int)}
theorem rch_put {w' : World} {to' at' gone' : Int} (h : RdM w U t nodes to nm most at_ gone LG) (k : ∀ gv, Blk w t 119 (rdr nodes to nm most at_ gone gv) → Blk w' t 119 (rdr nodes to' nm most at' gone' gv)) (f : Fr w w' (fun q => q = t)) : Rch w U t nodes to' nm most at' gone' LG w' := by
  obtain ⟨gv, cs, A⟩ := h
  exact ⟨U, ⟨gv, cs, A.put (k gv A.blk) f⟩, f.mono (fun q _ e => by subst e; exact A.ut), fun q hq => .inl hq⟩
theorem rlate_ch (h : RdM w U t nodes to nm most at_ gone LG) (ht : 0 ≤ to ∧ to ≤ 100) (hn : nodes ≤ 100) :
    Calls Try.prog 22 #[.pointer (some ⟨t, 0, none⟩)] w fun e w' => e = .returned (.tuple #[]) ∧ Rch w U t nodes (nextN to nodes) nm most at_ gone LG w' := by
  obtain ⟨gv, cs, A⟩ := h
  exact (rlate_any A.blk ht hn).mono fun e w' ⟨he, T, f⟩ => ⟨he, U, ⟨gv, cs, A.put T f⟩, f.mono (fun q _ e => by subst e; exact A.ut), fun q hq => .inl hq⟩
set_option maxHeartbeats 2000000 in
set_option maxRecDepth 100000 in
theorem told_take {a : Option Addr} {LL : List (List Int)} (c : Nat) (n : Int)
    (h : RdM w U t nodes to nm most at_ gone LG) (RW : ∀ w', Fr w w' U → Bk.Rws w' a LL) (hS : Small LL) (hl : LL.length ≤ 20) (hg : LG.length ≤ 5000) (ha : 0 ≤ at_) (hn : n ≤ 9223372036854775807) (h1 : n - at_ = (LL.length : Int)) :
    Calls Try.prog 21 #[.pointer (some ⟨t, 0, none⟩), .slice a LL.length c, .int .i64 n, .int .i64 0] w fun e w' => e = .returned (.tuple #[]) ∧ Rch w U t nodes to nm most n gone (LG ++ numb at_ LL) w' := by
  have TK := Lib.hid (take_any c h RW hS hl hg ⟨ha, by omega⟩)
  rw [show at_ + (LL.length : Int) = n by omega] at TK
  obtain ⟨gv, cs, A⟩ := h
  have AH := Lib.hid (ahead_any A.blk n ha hn)
  rw [show aheadN at_ n = (LL.length : Int) by unfold aheadN; rw [if_neg (by omega)]; exact h1] at AH
  clear A RW hS
  generalize Rch w U t nodes to nm most n gone (LG ++ numb at_ LL) = Q at *
  generalize LL.length = m at *
  go_enter Try.func21, Try.ntmps21
  go_wp2_with fail
  refine AH.out.mono ?_
  rintro e w1 ⟨rfl, rfl⟩
  go_wp2_with fail
  refine TK.out.mono ?_
  rintro e w2 ⟨rfl, q2⟩
  have q2 := Lib.hid q2
  go_wp2_with fail
  go_end0
  exact ⟨rfl, q2.out⟩
set_option maxHeartbeats 2000000 in
set_option maxRecDepth 100000 in
theorem told_gone {a : Option Addr} {m : Nat} (c : Nat) (n : Int) (h : RdM w U t nodes to nm most at_ gone LG) (ha : 0 ≤ at_ ∧ 0 ≤ gone ∧ gone ≤ at_) (hn : n ≤ 9223372036854775807) (h1 : at_ < n) :
    Calls Try.prog 21 #[.pointer (some ⟨t, 0, none⟩), .slice a m c, .int .i64 n, .int .i64 180] w fun e w' => e = .returned (.tuple #[]) ∧ Rch w U t nodes to nm most n (gone + (n - at_)) LG w' := by
  have FIN := Lib.hid (fun (w' : World) => rch_put (w' := w') (to' := to) (at' := n) (gone' := gone + (n - at_)) h)
  obtain ⟨gv, cs, A⟩ := h
  have AH := Lib.hid (ahead_any A.blk n ha.1 hn)
  have AD := Lib.hid (ahead_any (w := w.drew) (show Blk w.drew t 119 _ from A.blk) n ha.1 hn)
  rw [show aheadN at_ n = n - at_ by unfold aheadN; rw [if_neg (by omega)]] at AH AD
  obtain ⟨ha0, ha1, ha2⟩ := ha
  have hp : decide (0 < n - at_) = true := by simp; omega
  have hw : wrap64 (gone + (n - at_)) = gone + (n - at_) := by unfold wrap64; omega
  have c5 : w.drew.cell? ⟨t, 5, none⟩ = some (.int .i64 gone) := A.blk.cell 5
  have c4 : w.drew.cell? ⟨t, 4, none⟩ = some (.int .i64 at_) := A.blk.cell 4
  have fz : ∀ i, w.drew.frozen? ⟨t, i, none⟩ = false := A.blk.free
  have fz0 : ∀ i, w.frozen? ⟨t, i, none⟩ = false := A.blk.free
  have c40 : w.cell? ⟨t, 4, none⟩ = some (.int .i64 at_) := A.blk.cell 4
  have F9 := Lib.hid (FIN.out ((w.drew.setCell ⟨t, 5, none⟩ (.int .i64 (gone + (n - at_)))).setCell ⟨t, 4, none⟩ (.int .i64 n)) (fun gv T => (show Blk w.drew t 119 _ from T).set 5 _ |>.set 4 _) (((fr_drew w (fun q => q = t)).set t 5 _ (.inl rfl)).set t 4 _ (.inl rfl)))
  clear A FIN
  generalize Rch w U t nodes to nm most n (gone + (n - at_)) LG = Q at *
  go_enter Try.func21, Try.ntmps21
  go_wp2_with fail
  refine AH.out.mono ?_
  rintro e w1 ⟨rfl, rfl⟩
  go_wp2_with fail
  go_region_law (go_simp; go_at_call 54; refine AD.out.mono ?_; rintro r9 v2 ⟨rfl, rfl⟩)
  all_goals (
    go_wp2_with fail
    go_end0
    exact ⟨rfl, F9.out⟩)
set_option maxHeartbeats 2000000 in
set_option maxRecDepth 100000 in
theorem told_next {a : Option Addr} {m : Nat} (c : Nat) (n e : Int) (h : RdM w U t nodes to nm most at_ gone LG) (ht : 0 ≤ to ∧ to ≤ 100) (hno : nodes ≤ 100) (ha : 0 ≤ at_) (hn : n ≤ 9223372036854775807)
    (h0 : e = 0 → ¬ (at_ ≤ n ∧ n - at_ = (m : Int))) (h1 : e = 180 → ¬ at_ < n) :
    Calls Try.prog 21 #[.pointer (some ⟨t, 0, none⟩), .slice a m c, .int .i64 n, .int .i64 e] w fun e w' => e = .returned (.tuple #[]) ∧ Rch w U t nodes (nextN to nodes) nm most at_ gone LG w' := by
  have FIN := Lib.hid (fun (w' : World) => rch_put (w' := w') (to' := nextN to nodes) (at' := at_) (gone' := gone) h)
  obtain ⟨gv, cs, A⟩ := h
  have AH := Lib.hid (ahead_any A.blk n ha hn)
  have NX := Lib.hid (next_any A.blk rfl rfl ht hno)
  have F9 := Lib.hid (fun (w1 : World) (T : Blk w1 t 119 (rdr nodes (nextN to nodes) nm most at_ gone gv)) (f : Fr w w1 (fun q => q = t)) => show Rch w U t nodes (nextN to nodes) nm most at_ gone LG w1 from ⟨U, ⟨gv, cs, A.put T f⟩, f.mono (fun q _ e => by subst e; exact A.ut), fun q hq => .inl hq⟩)
  clear A FIN
  by_cases he : e = 0
  · subst he
    have hq : (aheadN at_ n == (m : Int)) = false := by
      have := h0 rfl
      unfold aheadN
      rw [beq_eq_false_iff_ne]
      split <;> omega
    generalize aheadN at_ n = z at *
    clear h0 h1
    generalize Rch w U t nodes (nextN to nodes) nm most at_ gone LG = Q at *
    go_enter Try.func21, Try.ntmps21
    go_wp2_with fail
    refine AH.out.mono ?_
    rintro e w1 ⟨rfl, rfl⟩
    go_wp2_with fail
    refine NX.out.mono ?_
    rintro e w2 ⟨rfl, T2, f2⟩
    have q2 := Lib.hid (F9.out _ T2 f2)
    clear T2 f2
    go_wp2_with fail
    go_end0
    exact ⟨rfl, q2.out⟩
  · have he0 : (e == 0) = false := by rw [beq_eq_false_iff_ne]; exact he
    by_cases he1 : e = 180
    · subst he1
      have hq : decide (0 < aheadN at_ n) = false := by
        have := h1 rfl
        unfold aheadN
        rw [decide_eq_false_iff_not]
        split <;> omega
      generalize aheadN at_ n = z at *
      clear h0 h1 he he0
      generalize Rch w U t nodes (nextN to nodes) nm most at_ gone LG = Q at *
      go_enter Try.func21, Try.ntmps21
      go_wp2_with fail
      refine AH.out.mono ?_
      rintro e w1 ⟨rfl, rfl⟩
      go_wp2_with fail
      refine NX.out.mono ?_
      rintro e w2 ⟨rfl, T2, f2⟩
      have q2 := Lib.hid (F9.out _ T2 f2)
      clear T2 f2
      go_wp2_with fail
      go_end0
      exact ⟨rfl, q2.out⟩
    · have he2 : (e == 180) = false := by rw [beq_eq_false_iff_ne]; exact he1
      clear h0 h1 he he1
      generalize Rch w U t nodes (nextN to nodes) nm most at_ gone LG = Q at *
      go_enter Try.func21, Try.ntmps21
      go_wp2_with fail
      refine NX.out.mono ?_
      rintro e w2 ⟨rfl, T2, f2⟩
      have q2 := Lib.hid (F9.out _ T2 f2)
      clear T2 f2
      go_wp2_with fail
      go_end0
      exact ⟨rfl, q2.out⟩
end
end Go.Proofs.Ytggjpallbapcmaa
