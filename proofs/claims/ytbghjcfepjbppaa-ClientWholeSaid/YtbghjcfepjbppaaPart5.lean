/-
  WHAT THE ROWS REST ON, part 5: Rtk Rtl Rgt Rdc Rdt Rdu Ord Rlp Rlq Open.
-/
import Derived.Deep.LoopGhost
import Derived.LoopTactic
import Derived.BigQuiet
import Derived.Deep.QuietTactic
import Derived.Deep.Slices
import Derived.Deep.Fields
import Derived.ChangeSame
import Derived.Lib.SmallJoins
import Derived.Test.YtbghjcfepjbppaaPart4
/-
  A READER TAKES MATCHES: take.
-/
namespace Go.Proofs.Ytbghjcfepjbppaa
open Go.RowKit
theorem info72 : (Try.prog.info? 72).map (fun i => (i.zero, i.size, i.bytes)) = some (some (.agg #[.int .i64 0, .slice none 0 0]), 2, 32) := by kernel_rfl
theorem one_got (n : Int) (a : Option Addr) (m c : Nat) : ∀ u ∈ ([.int .i64 n, .slice a m c] : List Value), u.oneCell' = true := by
  intro u hu
  simp only [List.mem_cons, List.not_mem_nil, or_false] at hu
  rcases hu with rfl | rfl <;> rfl
theorem own_slice {w : World} {B t s n : Nat} {v : Value} {xs : List Value} (h : w.ownsRow B t s v n xs) : ∃ a c, v = .slice a n c := by
  rcases h.2 with ⟨rfl, e⟩ | ⟨g, cap, cur, rfl, _⟩
  · exact ⟨none, 0, by rw [e]⟩
  · exact ⟨_, _, rfl⟩
/-- lists that are short enough to be copied -/
def Small (LL : List (List Int)) : Prop := ∀ xs ∈ LL, xs.length ≤ 17592186043904
set_option maxHeartbeats 4000000 in
set_option maxRecDepth 100000 in
theorem take_any {w : World} {U : Nat → Prop} {t : Nat} {nodes to : Int} {nm : ByteArray} {most at_ gone : Int} {LG : List (Int × List Int)} {a : Option Addr} {LL : List (List Int)} (c : Nat)
    (h : RdM w U t nodes to nm most at_ gone LG) (RW : ∀ w', Fr w w' U → Bk.Rws w' a LL) (hS : Small LL) (hl : LL.length ≤ 20) (hg : LG.length ≤ 5000) (ha : 0 ≤ at_ ∧ at_ + (LL.length : Int) ≤ 9223372036854775807) :
    Calls Try.prog 55 #[.pointer (some ⟨t, 0, none⟩), .slice a LL.length c] w fun e w' => e = .returned (.tuple #[]) ∧ Rch w U t nodes to nm most (at_ + (LL.length : Int)) gone (LG ++ numb at_ LL) w' := by
  obtain ⟨i72, hi, hz0, hz1, hz2⟩ := info_parts info72
  have R0 : Hid (Rch w U t nodes to nm most at_ gone LG w) := Lib.hid ⟨U, h, Fr.refl _ _, fun q hq => .inl hq⟩
  have RWh := Lib.hid RW
  have Sh := Lib.hid hS
  obtain ⟨n, hn⟩ : ∃ n, n = LL.length := ⟨_, rfl⟩
  have HN := Lib.hid hn
  rw [← hn] at hl ha ⊢
  obtain ⟨ha0, ha1⟩ := ha
  clear h RW hS hn
  go_enter Try.func55, Try.ntmps55
  go_wp2_with fail
  go_loopw [8] (fun i wr => ∃ (j : Nat), i = .int .i64 j ∧ j ≤ n ∧ Hid (Rch w U t nodes to nm most (at_ + (j : Int)) gone (LG ++ numb at_ (LL.take j)) wr))
    (fun i wr => n - (intOf i).toNat)
  case atStart => exact ⟨0, rfl, Nat.zero_le _, by simpa [numb] using R0⟩
  case round =>
    obtain ⟨j, rfl, hj, hR⟩ := hrel
    clear R0
    by_cases hjn : j < n
    · have jI : (j : Int) < (n : Int) := by omega
      have jB := decide_eq_true jI
      have hjL : j < LL.length := by rw [← HN.out]; exact hjn
      obtain ⟨U1, ⟨gv, cs, A⟩, f1, u1⟩ := hR.out
      obtain ⟨ga, go_, qa, cq, rfl, hga, ck, nn⟩ := RWh.out wr f1 j hjL
      obtain ⟨ua, uc, rfl⟩ := own_slice A.own
      have hsm := Sh.out _ (List.getElem_mem hjL)
      obtain ⟨x, hx⟩ : ∃ x, x = LL[j]'hjL := ⟨_, rfl⟩
      rw [← hx] at hsm nn ck
      have NT : numb at_ (LL.take (j + 1)) = numb at_ (LL.take j) ++ [(at_ + (j : Int), x)] := by rw [hx]; exact numb_take hjL
      obtain ⟨W1, hW1, X1, B1⟩ : ∃ W1, W1 = wr.alloc (.cells #[.slice qa x.length cq] 70) ∧ Blk W1 wr.heap.size 70 #[.slice qa x.length cq] ∧ Below wr.heap.size wr W1 := ⟨_, rfl, Blk.new _ _ _, (Below.refl _ _).alloc (Nat.le_refl _) _⟩
      have A1 := A.fr (P := fun _ => False) (Fr.of_below B1 _) (fun _ hf => hf.elim)
      have GT := Lib.hid (got_any (w := W1.drew) (at_ + (j : Int)) cq (nn.next B1.drew) hsm)
      have PU := Lib.hid (fun (v w4 : World) (a' : Option Addr) (c' g cap : Nat) (o : Obj) bv hn ha ho hg hat => A1.push (v := v) (w4 := w4) (a' := a') (c' := c') (g := g) (cap := cap) (xs := x) o bv hn ha ho hg hat rfl)
      have OW := Lib.hid (fun (v : World) (bv : Below W1.heap.size W1 v) => Fr.own A1.own (Fr.of_below bv (fun _ => False)) (fun _ _ h => h))
      have TB := Lib.hid A1.blk
      have X1h := Lib.hid X1
      have W1h := Lib.hid hW1
      have htl : t < W1.heap.size := A1.blk.lt
      have hgl : LG.length + j ≤ 5020 := by omega
      have ln : (LG ++ numb at_ (LL.take j)).length = LG.length + j := by rw [List.length_append, numb_len, List.length_take, Nat.min_eq_left (Nat.le_of_lt hjL)]
      have FIN := Lib.hid (fun (w9 : World) (at' : Int) (e : at' = at_ + (j : Int) + 1) (k : Rch W1 U1 t nodes to nm most at' gone (LG ++ numb at_ (LL.take j) ++ [(at_ + (j : Int), x)]) w9) => show Rch w U t nodes to nm most (at_ + ((j + 1 : Nat) : Int)) gone (LG ++ numb at_ (LL.take (j + 1))) w9 from by
        rw [NT, ← List.append_assoc]
        rw [show at_ + ((j + 1 : Nat) : Int) = at' by omega]
        obtain ⟨U2, k1, k2, k3⟩ := k
        have fB : Fr wr W1 (fun _ => False) := Fr.of_below B1 _
        refine ⟨U2, k1, (f1.trans (fB.trans k2 (fun _ _ h => h.elim) (fun _ _ h => h) : Fr wr w9 U1) (fun _ _ h => h) (fun q hq hh => ?_)), fun q hq => ?_⟩
        · rcases u1 q hh with h | h
          · exact h
          · omega
        · rcases k3 q hq with h | h
          · exact u1 q h
          · exact .inr (Nat.le_trans f1.size (Nat.le_trans fB.size h)))
      have hwr : wrap64 (at_ + (j : Int) + 1) = at_ + (j : Int) + 1 := by unfold wrap64; omega
      clear hR A1 A nn hsm X1 B1 hW1 f1 u1 NT hx
      rw [ln] at PU OW TB
      clear ln
      unfold GotR at GT
      have HM := Lib.hid (rfl : x.length = x.length)
      generalize x.length = m at *
      have t6 : W1.drew.cell? ⟨t, 6, none⟩ = some (.slice ua (LG.length + j) uc) := TB.out.cell 6
      have t4 : W1.drew.cell? ⟨t, 4, none⟩ = some (.int .i64 (at_ + (j : Int))) := TB.out.cell 4
      have x0 : W1.drew.cell? ⟨wr.heap.size, 0, none⟩ = some (.slice qa m cq) := X1h.out.cell 0
      have hlI : (LG.length : Int) + (j : Int) ≤ 5020 := by omega
      generalize LG.length + j = r at *
      go_wp2_with fail
      rw [← W1h.out]
      go_region_law
        (first
          | (refine step_append_lies _ rfl (.tmp 16) (.tmp 23) 67 rfl 0 72 i72 (.agg #[.int .i64 0, .slice none 0 0]) 2 32 Try.underlying67 hi hz0 hz1 hz2 rfl (by decide) (.slice ua r uc) r cs rfl (World.ownsRow.alloc OW2.out _) ⟨v2.heap.size, 0, none⟩ 1 1 [.int .i64 (at_ + (j : Int)), .slice a2 m c2] rfl rfl (World.news_of_block (cs := #[.int .i64 (at_ + (j : Int)), .slice a2 m c2]) (heap_alloc_new v2 _)) (one_got _ a2 m c2) (by decide) (by unfold maxLen; omega) (by omega) (Nat.zero_le _) _ rfl ?_; intro g4 cap4 w4 ho4 hg4 hat4 _; obtain ⟨q1, q2, q3, q4, q5⟩ := PU.out v2 w4 a2 c2 g4 cap4 _ BV.out nn2.out hp2.out ho4 hg4 hat4; have K4h := Lib.hid (q5 (at_ + (j : Int) + 1)); clear q5 ho4 hg4 hat4)
          | (go_simp; go_at_call 56; refine GT.out.mono ?_; rintro r9 v2 ⟨a2, c2, rfl, nn2, hp2, b2⟩; have BV : Hid (Below W1.heap.size W1 v2) := Lib.hid ((Below.refl W1.heap.size W1).drew.trans b2); have OW2 := Lib.hid (OW.out v2 BV.out); have nn2 := Lib.hid nn2; have hp2 : Hid (∀ ad, a2 = some ad → W1.heap.size ≤ ad.block ∧ ad.block < v2.heap.size) := Lib.hid hp2; have c5 : v2.cell? ⟨t, 6, none⟩ = some (.slice ua r uc) := (TB.out.below BV.out).cell 6; have hTv : (⟨t, 6, none⟩ : Addr).block < v2.heap.size := (TB.out.below BV.out).lt; have c6 : ∀ o, (v2.alloc o).cell? ⟨t, 6, none⟩ = some (.slice ua r uc) := fun o => (World.cell?_alloc_lt _ _ _ hTv).trans c5; clear b2))
      all_goals (
        go_wp2_with fail
        go_roundw
        case rel => exact ⟨j + 1, by go_num, by omega, Lib.hid (FIN.out _ _ rfl K4h.out)⟩
        case measure => simp [intOf]; omega)
    · obtain rfl : j = n := by omega
      have jI : ¬ (j : Int) < (j : Int) := by omega
      have R9 : Hid (Rch w U t nodes to nm most (at_ + (j : Int)) gone (LG ++ numb at_ LL) wr) := Lib.hid (by
        have := hR.out
        rw [List.take_of_length_le (Nat.le_of_eq HN.out.symm)] at this
        exact this)
      clear hR
      go_wp2_with fail
      go_end0
      exact ⟨rfl, R9.out⟩
end Go.Proofs.Ytbghjcfepjbppaa
/-
  A READER IS TOLD: Told; Late.
-/
namespace Go.Proofs.Ytbghjcfepjbppaa
open Go.RowKit
section
variable {w : World} {U : Nat → Prop} {t : Nat} {nodes to : Int} {nm : ByteArray} {most at_ gone : Int} {LG : List (Int × List Int)}
theorem rch_put {w' : World} {to' at' gone' : Int} (h : RdM w U t nodes to nm most at_ gone LG) (k : ∀ gv, Blk w t 119 (rdr nodes to nm most at_ gone gv) → Blk w' t 119 (rdr nodes to' nm most at' gone' gv)) (f : Fr w w' (fun q => q = t)) : Rch w U t nodes to' nm most at' gone' LG w' := by
  obtain ⟨gv, cs, A⟩ := h
  exact ⟨U, ⟨gv, cs, A.put (k gv A.blk) f⟩, f.mono (fun q _ e => by subst e; exact A.ut), fun q hq => .inl hq⟩
theorem rlate_ch (h : RdM w U t nodes to nm most at_ gone LG) (ht : 0 ≤ to ∧ to ≤ 100) (hn : nodes ≤ 100) :
    Calls Try.prog 22 #[.pointer (some ⟨t, 0, none⟩)] w fun e w' => e = .returned (.tuple #[]) ∧ Rch w U t nodes (nextN to nodes) nm most at_ gone LG w' := by
  obtain ⟨gv, cs, A⟩ := h
  exact (rlate_any A.blk ht hn).mono fun e w' ⟨he, T, f⟩ => ⟨he, U, ⟨gv, cs, A.put T f⟩, f.mono (fun q _ e => by subst e; exact A.ut), fun q hq => .inl hq⟩
set_option maxHeartbeats 2000000 in
set_option maxRecDepth 100000 in
theorem told_take {a : Option Addr} {LL : List (List Int)} (c : Nat) (n : Int)
    (h : RdM w U t nodes to nm most at_ gone LG) (RW : ∀ w', Fr w w' U → Bk.Rws w' a LL) (hS : Small LL) (hl : LL.length ≤ 20) (hg : LG.length ≤ 5000) (ha : 0 ≤ at_) (hn : n ≤ 9223372036854775807) (h1 : n - at_ = (LL.length : Int)) :
    Calls Try.prog 21 #[.pointer (some ⟨t, 0, none⟩), .slice a LL.length c, .int .i64 n, .int .i64 0] w fun e w' => e = .returned (.tuple #[]) ∧ Rch w U t nodes to nm most n gone (LG ++ numb at_ LL) w' := by
  have TK := Lib.hid (take_any c h RW hS hl hg ⟨ha, by omega⟩)
  rw [show at_ + (LL.length : Int) = n by omega] at TK
  obtain ⟨gv, cs, A⟩ := h
  have AH := Lib.hid (ahead_any A.blk n ha hn)
  rw [show aheadN at_ n = (LL.length : Int) by unfold aheadN; rw [if_neg (by omega)]; exact h1] at AH
  clear A RW hS
  generalize Rch w U t nodes to nm most n gone (LG ++ numb at_ LL) = Q at *
  generalize LL.length = m at *
  go_enter Try.func21, Try.ntmps21
  go_wp2_with fail
  refine AH.out.mono ?_
  rintro e w1 ⟨rfl, rfl⟩
  go_wp2_with fail
  refine TK.out.mono ?_
  rintro e w2 ⟨rfl, q2⟩
  have q2 := Lib.hid q2
  go_wp2_with fail
  go_end0
  exact ⟨rfl, q2.out⟩
set_option maxHeartbeats 2000000 in
set_option maxRecDepth 100000 in
theorem told_gone {a : Option Addr} {m : Nat} (c : Nat) (n : Int) (h : RdM w U t nodes to nm most at_ gone LG) (ha : 0 ≤ at_ ∧ 0 ≤ gone ∧ gone ≤ at_) (hn : n ≤ 9223372036854775807) (h1 : at_ < n) :
    Calls Try.prog 21 #[.pointer (some ⟨t, 0, none⟩), .slice a m c, .int .i64 n, .int .i64 180] w fun e w' => e = .returned (.tuple #[]) ∧ Rch w U t nodes to nm most n (gone + (n - at_)) LG w' := by
  have FIN := Lib.hid (fun (w' : World) => rch_put (w' := w') (to' := to) (at' := n) (gone' := gone + (n - at_)) h)
  obtain ⟨gv, cs, A⟩ := h
  have AH := Lib.hid (ahead_any A.blk n ha.1 hn)
  have AD := Lib.hid (ahead_any (w := w.drew) (show Blk w.drew t 119 _ from A.blk) n ha.1 hn)
  rw [show aheadN at_ n = n - at_ by unfold aheadN; rw [if_neg (by omega)]] at AH AD
  obtain ⟨ha0, ha1, ha2⟩ := ha
  have hp : decide (0 < n - at_) = true := by simp; omega
  have hw : wrap64 (gone + (n - at_)) = gone + (n - at_) := by unfold wrap64; omega
  have c5 : w.drew.cell? ⟨t, 5, none⟩ = some (.int .i64 gone) := A.blk.cell 5
  have c4 : w.drew.cell? ⟨t, 4, none⟩ = some (.int .i64 at_) := A.blk.cell 4
  have fz : ∀ i, w.drew.frozen? ⟨t, i, none⟩ = false := A.blk.free
  have fz0 : ∀ i, w.frozen? ⟨t, i, none⟩ = false := A.blk.free
  have c40 : w.cell? ⟨t, 4, none⟩ = some (.int .i64 at_) := A.blk.cell 4
  have F9 := Lib.hid (FIN.out ((w.drew.setCell ⟨t, 5, none⟩ (.int .i64 (gone + (n - at_)))).setCell ⟨t, 4, none⟩ (.int .i64 n)) (fun gv T => (show Blk w.drew t 119 _ from T).set 5 _ |>.set 4 _) (((fr_drew w (fun q => q = t)).set t 5 _ (.inl rfl)).set t 4 _ (.inl rfl)))
  clear A FIN
  generalize Rch w U t nodes to nm most n (gone + (n - at_)) LG = Q at *
  go_enter Try.func21, Try.ntmps21
  go_wp2_with fail
  refine AH.out.mono ?_
  rintro e w1 ⟨rfl, rfl⟩
  go_wp2_with fail
  go_region_law (go_simp; go_at_call 54; refine AD.out.mono ?_; rintro r9 v2 ⟨rfl, rfl⟩)
  all_goals (
    go_wp2_with fail
    go_end0
    exact ⟨rfl, F9.out⟩)
set_option maxHeartbeats 2000000 in
set_option maxRecDepth 100000 in
theorem told_next {a : Option Addr} {m : Nat} (c : Nat) (n e : Int) (h : RdM w U t nodes to nm most at_ gone LG) (ht : 0 ≤ to ∧ to ≤ 100) (hno : nodes ≤ 100) (ha : 0 ≤ at_) (hn : n ≤ 9223372036854775807)
    (h0 : e = 0 → ¬ (at_ ≤ n ∧ n - at_ = (m : Int))) (h1 : e = 180 → ¬ at_ < n) :
    Calls Try.prog 21 #[.pointer (some ⟨t, 0, none⟩), .slice a m c, .int .i64 n, .int .i64 e] w fun e w' => e = .returned (.tuple #[]) ∧ Rch w U t nodes (nextN to nodes) nm most at_ gone LG w' := by
  have FIN := Lib.hid (fun (w' : World) => rch_put (w' := w') (to' := nextN to nodes) (at' := at_) (gone' := gone) h)
  obtain ⟨gv, cs, A⟩ := h
  have AH := Lib.hid (ahead_any A.blk n ha hn)
  have NX := Lib.hid (next_any A.blk rfl rfl ht hno)
  have F9 := Lib.hid (fun (w1 : World) (T : Blk w1 t 119 (rdr nodes (nextN to nodes) nm most at_ gone gv)) (f : Fr w w1 (fun q => q = t)) => show Rch w U t nodes (nextN to nodes) nm most at_ gone LG w1 from ⟨U, ⟨gv, cs, A.put T f⟩, f.mono (fun q _ e => by subst e; exact A.ut), fun q hq => .inl hq⟩)
  clear A FIN
  by_cases he : e = 0
  · subst he
    have hq : (aheadN at_ n == (m : Int)) = false := by
      have := h0 rfl
      unfold aheadN
      rw [beq_eq_false_iff_ne]
      split <;> omega
    generalize aheadN at_ n = z at *
    clear h0 h1
    generalize Rch w U t nodes (nextN to nodes) nm most at_ gone LG = Q at *
    go_enter Try.func21, Try.ntmps21
    go_wp2_with fail
    refine AH.out.mono ?_
    rintro e w1 ⟨rfl, rfl⟩
    go_wp2_with fail
    refine NX.out.mono ?_
    rintro e w2 ⟨rfl, T2, f2⟩
    have q2 := Lib.hid (F9.out _ T2 f2)
    clear T2 f2
    go_wp2_with fail
    go_end0
    exact ⟨rfl, q2.out⟩
  · have he0 : (e == 0) = false := by rw [beq_eq_false_iff_ne]; exact he
    by_cases he1 : e = 180
    · subst he1
      have hq : decide (0 < aheadN at_ n) = false := by
        have := h1 rfl
        unfold aheadN
        rw [decide_eq_false_iff_not]
        split <;> omega
      generalize aheadN at_ n = z at *
      clear h0 h1 he he0
      generalize Rch w U t nodes (nextN to nodes) nm most at_ gone LG = Q at *
      go_enter Try.func21, Try.ntmps21
      go_wp2_with fail
      refine AH.out.mono ?_
      rintro e w1 ⟨rfl, rfl⟩
      go_wp2_with fail
      refine NX.out.mono ?_
      rintro e w2 ⟨rfl, T2, f2⟩
      have q2 := Lib.hid (F9.out _ T2 f2)
      clear T2 f2
      go_wp2_with fail
      go_end0
      exact ⟨rfl, q2.out⟩
    · have he2 : (e == 180) = false := by rw [beq_eq_false_iff_ne]; exact he1
      clear h0 h1 he he1
      generalize Rch w U t nodes (nextN to nodes) nm most at_ gone LG = Q at *
      go_enter Try.func21, Try.ntmps21
      go_wp2_with fail
      refine NX.out.mono ?_
      rintro e w2 ⟨rfl, T2, f2⟩
      have q2 := Lib.hid (F9.out _ T2 f2)
      clear T2 f2
      go_wp2_with fail
      go_end0
      exact ⟨rfl, q2.out⟩
end
end Go.Proofs.Ytbghjcfepjbppaa
/-
  WHAT A READER GOT, COPIED: Got.
-/
namespace Go.Proofs.Ytbghjcfepjbppaa
open Go.RowKit
/-- matches with their numbers that the call made -/
structure GoA (w0 w : World) (LG : List (Int × List Int)) (gv : Value) (cs : List Value) : Prop where
  own : w.ownsRow w0.heap.size 72 2 gv LG.length cs
  gc : ∀ i (h : i < LG.length), ∃ q c, cs[i * 2]? = some (.int .i64 LG[i].1) ∧ cs[i * 2 + 1]? = some (.slice q LG[i].2.length c) ∧ Bk.Nums w q LG[i].2 ∧ ∀ p, q = some p → w0.heap.size ≤ p.block ∧ p.block < w.heap.size ∧ gv.ownBlock ≠ some p.block
  b : Below w0.heap.size w0 w
theorem goA_nil (w0 w : World) (b : Below w0.heap.size w0 w) : GoA w0 w [] (.slice none 0 0) [] := ⟨World.ownsRow_nil _ _ _ _, fun i h => by simp at h, b⟩
theorem GoA.push {w0 w v w4 : World} {LG : List (Int × List Int)} {gv : Value} {cs : List Value} {a' : Option Addr} {c' g cap : Nat} {n : Int} {xs : List Int} (o : Obj) (h : GoA w0 w LG gv cs) (bv : Below w.heap.size w v)
    (hn : Bk.Nums v a' xs) (ha : ∀ ad, a' = some ad → w.heap.size ≤ ad.block ∧ ad.block < v.heap.size)
    (ho : w4.ownsRow w0.heap.size 72 2 (.slice (some ⟨g, 0, none⟩) (LG.length + 1) cap) (LG.length + 1) (cs ++ [.int .i64 n, .slice a' xs.length c'])) (hg : (v.alloc o).grownBy w4 gv.ownBlock) (hat : gv.ownBlock = some g ∨ g = (v.alloc o).heap.size) :
    GoA w0 w4 (LG ++ [(n, xs)]) (.slice (some ⟨g, 0, none⟩) (LG.length + 1) cap) (cs ++ [.int .i64 n, .slice a' xs.length c']) := by
  have hgl : ∀ q, gv.ownBlock = some q → w0.heap.size ≤ q ∧ q < w.heap.size := fun q hq => World.ownsRow.lt h.own q hq
  have hs1 : (v.alloc o).heap.size = v.heap.size + 1 := by simp
  have hvs := bv.size
  have f0 : Fr w (v.alloc o) (fun q => gv.ownBlock = some q) := (Fr.of_below bv _).al o
  have f1 : Fr (v.alloc o) w4 (fun q => gv.ownBlock = some q) := (Fr.of_grown hg).mono (fun q _ h => h.symm)
  have f2 : Fr w w4 (fun q => gv.ownBlock = some q) := f0.on f1
  have h6 := f2.size
  have h7 := f1.size
  have hb6 := h.b.size
  have avg : ∀ ad, a' = some ad → ad.block ≠ g := fun ad e => by
    have h1 := ha ad e
    rcases hat with e' | e'
    · have := hgl g e'; omega
    · omega
  refine ⟨by rw [List.length_append]; exact ho, fun i hi => ?_, h.b.trans (f2.below (fun q hq => (hgl q hq).1) hb6)⟩
  rw [List.length_append] at hi
  simp only [List.length_cons, List.length_nil] at hi
  have hcl : cs.length = LG.length * 2 := h.own.1
  rcases Nat.lt_or_ge i LG.length with h1 | h1
  · obtain ⟨q, c, e0, e1, nn, hb⟩ := h.gc i h1
    rw [List.getElem_append_left h1, List.getElem?_append_left (by omega), List.getElem?_append_left (by omega)]
    refine ⟨q, c, e0, e1, nums_fr nn f2 (fun ad e hh => (hb ad e).2.2 hh), fun p hp => ⟨(hb p hp).1, by have := (hb p hp).2.1; omega, ?_⟩⟩
    intro hh
    have hpg : g = p.block := by simpa [Value.ownBlock] using hh
    rcases hat with e' | e'
    · exact (hb p hp).2.2 (by rw [e', hpg])
    · have := (hb p hp).2.1; omega
  · obtain rfl : i = LG.length := by omega
    rw [List.getElem_append_right (Nat.le_refl _), List.getElem?_append_right (by omega), List.getElem?_append_right (by omega)]
    simp only [Nat.sub_self, List.getElem_cons_zero]
    rw [show LG.length * 2 - cs.length = 0 by omega, show LG.length * 2 + 1 - cs.length = 1 by omega]
    refine ⟨a', c', rfl, rfl, nums_fr (nums_fr hn ((Fr.refl v (fun q => gv.ownBlock = some q)).al o) (fun ad e hh => by have := hgl _ hh; have := ha ad e; omega)) f1 (fun ad e hh => by have := hgl _ hh; have := ha ad e; omega), fun p hp => ⟨by have := (ha p hp).1; omega, by have := (ha p hp).2; omega, ?_⟩⟩
    intro hh
    have hpg : g = p.block := by simpa [Value.ownBlock] using hh
    exact avg p hp hpg.symm
theorem GoA.next {w0 w w' : World} {LG : List (Int × List Int)} {gv : Value} {cs : List Value} (h : GoA w0 w LG gv cs) (b : Below w.heap.size w w') : GoA w0 w' LG gv cs := by
  refine ⟨Fr.own h.own (Fr.of_below b (fun _ => False)) (fun _ _ h => h), fun i hi => ?_, h.b.trans (b.mono h.b.size)⟩
  obtain ⟨q, c, e0, e1, nn, hb⟩ := h.gc i hi
  exact ⟨q, c, e0, e1, nn.next b, fun p hp => ⟨(hb p hp).1, Nat.lt_of_lt_of_le (hb p hp).2.1 b.size, (hb p hp).2.2⟩⟩
/-- matches with their numbers that can be read -/
def Grw (w : World) (a : Option Addr) (LG : List (Int × List Int)) : Prop := ∀ i (h : i < LG.length), ∃ g q c, a = some ⟨g, 0, none⟩ ∧ g < w.heap.size ∧ w.cell? ⟨g, i * 2, none⟩ = some (.int .i64 LG[i].1) ∧ w.cell? ⟨g, i * 2 + 1, none⟩ = some (.slice q LG[i].2.length c) ∧ Bk.Nums w q LG[i].2
theorem grw_own {w : World} {B : Nat} {a : Option Addr} {n c : Nat} {cs : List Value} {LG : List (Int × List Int)} (ho : w.ownsRow B 72 2 (.slice a n c) LG.length cs)
    (gc : ∀ i (h : i < LG.length), ∃ q c, cs[i * 2]? = some (.int .i64 LG[i].1) ∧ cs[i * 2 + 1]? = some (.slice q LG[i].2.length c) ∧ Bk.Nums w q LG[i].2) : Grw w a LG := by
  intro i hi
  obtain ⟨q, cq, e0, e1, nn⟩ := gc i hi
  have hcl : cs.length = LG.length * 2 := ho.1
  have h0 := ho
  rcases ho.2 with ⟨_, e3⟩ | ⟨g, cap, cur, e3, hb, hg, _⟩
  · omega
  · obtain ⟨rfl, rfl, rfl⟩ : a = some ⟨g, 0, none⟩ ∧ n = LG.length ∧ c = cap := by
      simp only [Value.slice.injEq] at e3; exact e3
    exact ⟨g, q, cq, rfl, (Array.getElem?_eq_some_iff.1 hg).1, by rw [h0.cellAt _ (by omega)]; exact e0, by rw [h0.cellAt _ (by omega)]; exact e1, nn⟩
/-- what Got answers -/
def Glst (w : World) (LG : List (Int × List Int)) (e : Ending) (w' : World) : Prop := ∃ a' c', e = .returned (.slice a' LG.length c') ∧ Grw w' a' LG ∧ Below w.heap.size w w'
set_option maxHeartbeats 4000000 in
set_option maxRecDepth 100000 in
theorem rgot_any {w : World} {U : Nat → Prop} {t : Nat} {nodes to : Int} {nm : ByteArray} {most at_ gone : Int} {LG : List (Int × List Int)}
    (h : RdM w U t nodes to nm most at_ gone LG) (hS : ∀ x ∈ LG, x.2.length ≤ 17592186043904) (hg : LG.length ≤ 5000) :
    Calls Try.prog 26 #[.pointer (some ⟨t, 0, none⟩)] w (Glst w LG) := by
  obtain ⟨i72, hi, hz0, hz1, hz2⟩ := info_parts info72
  obtain ⟨gv, cs0, A⟩ := h
  obtain ⟨ua0, uc0, rfl⟩ := own_slice A.own
  have SRC : Hid (∀ wr, Below w.heap.size w wr → ∀ j (hj : j < LG.length), ∃ g q c, ua0 = some ⟨g, 0, none⟩ ∧ wr.cell? ⟨g, j * 2, none⟩ = some (.int .i64 LG[j].1) ∧ wr.cell? ⟨g, j * 2 + 1, none⟩ = some (.slice q LG[j].2.length c) ∧ Bk.Nums wr q LG[j].2) := Lib.hid (by
    intro wr b j hj
    have A1 := A.fr (P := fun _ => False) (Fr.of_below b _) (fun _ hf => hf.elim)
    obtain ⟨g, q, c, e, _, k0, k1, nn⟩ := grw_own A1.own (fun i hi => by obtain ⟨q, c, e0, e1, nn, _⟩ := A1.gc i hi; exact ⟨q, c, e0, e1, nn⟩) j hj
    exact ⟨g, q, c, e, k0, k1, nn⟩)
  have c6 : w.cell? ⟨t, 6, none⟩ = some (.slice ua0 LG.length uc0) := A.blk.cell 6
  have Sh := Lib.hid hS
  have R0 : Hid (GoA w w [] (.slice none 0 0) []) := Lib.hid (goA_nil w w (Below.refl _ _))
  obtain ⟨n, hn⟩ : ∃ n, n = LG.length := ⟨_, rfl⟩
  have HN := Lib.hid hn
  rw [← hn] at hg c6
  have hgI : (n : Int) ≤ 5000 := by omega
  clear A hS hn
  go_enter Try.func26, Try.ntmps26
  go_wp2_with fail
  go_loopw [2, 12] (fun v i wr => ∃ (j : Nat) (cs : List Value), i = .int .i64 j ∧ j ≤ n ∧ Hid (GoA w wr (LG.take j) v cs))
    (fun v i wr => n - (intOf i).toNat)
  case atStart => exact ⟨0, [], rfl, Nat.zero_le _, R0⟩
  case round =>
    obtain ⟨j, cs, rfl, hj, hR⟩ := hrel
    clear R0 c6
    have ljn : (LG.take j).length = j := by rw [List.length_take, Nat.min_eq_left (by rw [← HN.out]; exact hj)]
    have O1 := hR.out.own
    rw [ljn] at O1
    obtain ⟨va, vc, rfl⟩ := own_slice O1
    by_cases hjn : j < n
    · have jI : (j : Int) < (n : Int) := by omega
      have jB := decide_eq_true jI
      have hjL : j < LG.length := by rw [← HN.out]; exact hjn
      obtain ⟨x, hx⟩ : ∃ x, x = LG[j]'hjL := ⟨_, rfl⟩
      have hTk : LG.take (j + 1) = LG.take j ++ [x] := by rw [hx]; exact List.take_succ_eq_append_getElem hjL
      have hxm : x ∈ LG := by rw [hx]; exact List.getElem_mem hjL
      have hsm := Sh.out x hxm
      obtain ⟨g0, q0, k0, rfl, ck0, ck1, nn⟩ := SRC.out wr hR.out.b j hjL
      rw [← hx] at ck0 ck1 nn
      obtain ⟨xn, xs⟩ := x
      simp only at ck0 ck1 nn hsm
      obtain ⟨W1, hW1, X1, B1⟩ : ∃ W1, W1 = wr.alloc (.cells #[.int .i64 xn, .slice q0 xs.length k0] 72) ∧ Blk W1 wr.heap.size 72 #[.int .i64 xn, .slice q0 xs.length k0] ∧ Below wr.heap.size wr W1 := ⟨_, rfl, Blk.new _ _ _, (Below.refl _ _).alloc (Nat.le_refl _) _⟩
      have GT := Lib.hid (got_any (w := W1) xn k0 (nn.next B1) hsm)
      have PU := Lib.hid (fun (v w4 : World) (a' : Option Addr) (c' g cap : Nat) (o : Obj) bv hn ha ho hg hat => (hR.out.next B1).push (v := v) (w4 := w4) (a' := a') (c' := c') (g := g) (cap := cap) (n := xn) (xs := xs) o bv hn ha ho hg hat)
      have OW := Lib.hid (fun (v : World) (bv : Below W1.heap.size W1 v) => Fr.own (hR.out.next B1).own (Fr.of_below bv (fun _ => False)) (fun _ _ h => h))
      have hbs := Nat.le_trans hR.out.b.size B1.size
      rw [ljn] at PU OW
      rw [← hTk] at PU
      have X1h := Lib.hid X1
      have W1h := Lib.hid hW1
      have x0 : W1.cell? ⟨wr.heap.size, 0, none⟩ = some (.int .i64 xn) := X1.cell 0
      have x1 : W1.cell? ⟨wr.heap.size, 1, none⟩ = some (.slice q0 xs.length k0) := X1.cell 1
      clear hR O1 X1 B1 hW1 nn hsm hxm hTk hx
      unfold GotR at GT
      generalize xs.length = m at *
      go_wp2_with fail
      rw [← W1h.out]
      go_wp2_with fail
      refine GT.out.mono ?_
      rintro r9 v2 ⟨a2, c2, rfl, nn2, hp2, b2⟩
      have BV := Lib.hid b2
      have nn2 := Lib.hid nn2
      have hp2 := Lib.hid hp2
      have OW2 := Lib.hid (OW.out v2 b2)
      have hb2 := Nat.le_trans hbs b2.size
      clear b2 GT x0 x1 ck0 ck1
      go_wp2_with (at_builtin; refine wpList_append_lies _ rfl (.tmp 16) (.tmp 22) 67 rfl w.heap.size 72 i72 (.agg #[.int .i64 0, .slice none 0 0]) 2 32 Try.underlying67 hi hz0 hz1 hz2 rfl (by decide) (.slice va j vc) j cs rfl (World.ownsRow.alloc OW2.out _) ⟨v2.heap.size, 0, none⟩ 1 1 [.int .i64 xn, .slice a2 m c2] rfl rfl (World.news_of_block (cs := #[.int .i64 xn, .slice a2 m c2]) (heap_alloc_new v2 _)) (one_got _ a2 m c2) (by decide) (by unfold maxLen; omega) (by omega) (by simp; omega) _ rfl ?_; intro g4 cap4 w4 ho4 hg4 hat4 _; have K4h := Lib.hid (PU.out v2 w4 a2 c2 g4 cap4 _ BV.out nn2.out hp2.out ho4 hg4 hat4); clear ho4 hg4 hat4)
      go_roundw
      case rel => exact ⟨j + 1, _, by go_num, by omega, K4h⟩
      case measure => simp [intOf]; omega
    · obtain rfl : j = n := by omega
      have jI : ¬ (j : Int) < (j : Int) := by omega
      have hT : LG.take j = LG := List.take_of_length_le (Nat.le_of_eq HN.out.symm)
      have R9 : Hid (GoA w wr LG (.slice va j vc) cs) := Lib.hid (by have := hR.out; rw [hT] at this; exact this)
      have F9 : Hid (Glst w LG (.returned (.slice va j vc)) wr) := Lib.hid ⟨va, vc, by rw [← HN.out], grw_own R9.out.own (fun i hi => by obtain ⟨q, c, e0, e1, nn, _⟩ := R9.out.gc i hi; exact ⟨q, c, e0, e1, nn⟩), R9.out.b⟩
      clear hR O1 R9
      generalize Glst w LG = Q at *
      go_wp2_with fail
      (try go_ret)
      exact F9.out
end Go.Proofs.Ytbghjcfepjbppaa
/-
  THE DOCUMENT's READER: next; lists with the blocks they lie in; Rows.
-/
namespace Go.Proofs.Ytbghjcfepjbppaa
open Go.RowKit
theorem rnext_any (to nodes : Int) (w : World) (ht : 0 ≤ to ∧ to ≤ 100) : Calls Try.prog 48 #[.int .i64 to, .int .i64 nodes] w fun e w' => e = .returned (.int .i64 (nextN to nodes)) ∧ w = w' := by
  have hw : wrap64 (to + 1) = to + 1 := by unfold wrap64; omega
  unfold nextN
  by_cases h : to + 1 < nodes
  · rw [if_pos h]
    have hd : decide (to + 1 < nodes) = true := by simp; omega
    go_enter Try.func48, Try.ntmps48
    go_wp2_with fail
    go_ret
    exact ⟨rfl, rfl⟩
  · rw [if_neg h]
    have hd : decide (to + 1 < nodes) = false := by simp; omega
    go_enter Try.func48, Try.ntmps48
    go_wp2_with fail
    go_ret
    exact ⟨rfl, rfl⟩
/-- numbers in the blocks V -/
def NumsD (w : World) (V : Nat → Prop) (a : Option Addr) (xs : List Int) : Prop := Bk.Nums w a xs ∧ ∀ p, a = some p → xs ≠ [] → V p.block
/-- rows of numbers in the blocks V -/
def RwsD (w : World) (V : Nat → Prop) (a : Option Addr) (LL : List (List Int)) : Prop := ∀ i (h : i < LL.length), ∃ g o q c, a = some ⟨g, o, none⟩ ∧ g < w.heap.size ∧ V g ∧ w.cell? ⟨g, o + i, none⟩ = some (.slice q LL[i].length c) ∧ NumsD w V q LL[i]
section
variable {w w' : World} {V P : Nat → Prop} {a : Option Addr} {xs : List Int} {LL : List (List Int)}
theorem NumsD.fr (h : NumsD w V a xs) (f : Fr w w' P) (hP : ∀ q, V q → ¬ P q) : NumsD w' V a xs := ⟨fun i hi => by
  obtain ⟨g, o, e, hl, c⟩ := h.1 i hi
  have hv := h.2 _ e (fun e0 => by rw [e0] at hi; simp at hi)
  exact ⟨g, o, e, Nat.lt_of_lt_of_le hl f.size, f.cell hl (hP _ hv) c⟩, h.2⟩
theorem NumsD.mono {V' : Nat → Prop} (h : NumsD w V a xs) (hV : ∀ q, V q → V' q) : NumsD w V' a xs := ⟨h.1, fun p e hx => hV _ (h.2 p e hx)⟩
theorem RwsD.fr (h : RwsD w V a LL) (f : Fr w w' P) (hP : ∀ q, V q → ¬ P q) : RwsD w' V a LL := fun i hi => by
  obtain ⟨g, o, q, c, e, hl, hv, ck, nn⟩ := h i hi
  exact ⟨g, o, q, c, e, Nat.lt_of_lt_of_le hl f.size, hv, f.cell hl (hP _ hv) ck, nn.fr f hP⟩
theorem RwsD.mono {V' : Nat → Prop} (h : RwsD w V a LL) (hV : ∀ q, V q → V' q) : RwsD w V' a LL := fun i hi => by
  obtain ⟨g, o, q, c, e, hl, hv, ck, nn⟩ := h i hi
  exact ⟨g, o, q, c, e, hl, hV _ hv, ck, nn.mono hV⟩
theorem RwsD.next (h : RwsD w V a LL) (b : Below w.heap.size w w') : RwsD w' V a LL := h.fr (P := fun _ => False) (Fr.of_below b _) (fun _ _ hf => hf)
theorem NumsD.next (h : NumsD w V a xs) (b : Below w.heap.size w w') : NumsD w' V a xs := h.fr (P := fun _ => False) (Fr.of_below b _) (fun _ _ hf => hf)
theorem RwsD.rws (h : RwsD w V a LL) : Bk.Rws w a LL := fun i hi => by
  obtain ⟨g, o, q, c, e, hl, hv, ck, nn⟩ := h i hi
  exact ⟨g, o, q, c, e, hl, ck, nn.1⟩
theorem rwsD_nil (w : World) (V : Nat → Prop) (a : Option Addr) : RwsD w V a [] := fun i hi => by simp at hi
theorem numsD_nil (w : World) (V : Nat → Prop) (a : Option Addr) : NumsD w V a [] := ⟨fun i hi => by simp at hi, fun _ _ h => absurd rfl h⟩
end
/-- rows' cells, their numbers in the blocks V -/
def CelD (w : World) (V : Nat → Prop) (cs : List Value) (LL : List (List Int)) : Prop := cs.length = LL.length ∧ ∀ (i : Nat) (_h : i < cs.length) (h2 : i < LL.length), ∃ q c, cs[i]? = some (.slice q LL[i].length c) ∧ NumsD w V q LL[i]
section
variable {w w' : World} {V : Nat → Prop} {cs : List Value} {LL : List (List Int)}
theorem celD_nil (w : World) (V : Nat → Prop) : CelD w V [] [] := ⟨rfl, fun i h => by simp at h⟩
theorem CelD.fr {P : Nat → Prop} (h : CelD w V cs LL) (f : Fr w w' P) (hP : ∀ q, V q → ¬ P q) : CelD w' V cs LL := ⟨h.1, fun i a b => by
  obtain ⟨q, c, e, nn⟩ := h.2 i a b
  exact ⟨q, c, e, nn.fr f hP⟩⟩
theorem CelD.snoc {q : Option Addr} {c : Nat} {xs : List Int} (h : CelD w V cs LL) (hn : NumsD w V q xs) : CelD w V (cs ++ [.slice q xs.length c]) (LL ++ [xs]) := ⟨by simp [h.1], fun i a b => by
  have := h.1
  rcases Nat.lt_or_ge i cs.length with hi | hi
  · rw [List.getElem?_append_left hi, List.getElem_append_left (by omega)]
    exact h.2 i hi (by omega)
  · simp only [List.length_append, List.length_cons, List.length_nil] at a b
    obtain rfl : i = cs.length := by omega
    rw [List.getElem?_append_right (Nat.le_refl _), List.getElem_append_right (by omega)]
    simp only [this, Nat.sub_self, List.getElem_cons_zero]
    exact ⟨q, c, rfl, hn⟩⟩
theorem CelD.rws {V' : Nat → Prop} {B : Nat} {a : Option Addr} {n c : Nat} (h : CelD w V cs LL) (ho : w.ownsRow B 55 1 (.slice a n c) LL.length cs) (hV : ∀ q, V q → V' q) (hB : ∀ q, B ≤ q → V' q) : RwsD w V' a LL := by
  intro i hi
  have hl := h.1
  obtain ⟨q, cq, e, nn⟩ := h.2 i (by omega) hi
  have h0 := ho
  rcases ho.2 with ⟨_, e3⟩ | ⟨g, cap, cur, e3, hb, hg, _⟩
  · omega
  · obtain ⟨rfl, rfl, rfl⟩ : a = some ⟨g, 0, none⟩ ∧ n = LL.length ∧ c = cap := by
      simp only [Value.slice.injEq] at e3; exact e3
    refine ⟨g, 0, q, cq, rfl, (Array.getElem?_eq_some_iff.1 hg).1, hB _ hb, ?_, nn.mono hV⟩
    rw [Nat.zero_add, h0.cellAt _ (by omega), e]
end
theorem info55 : (Try.prog.info? 55).map (fun i => (i.zero, i.size, i.bytes)) = some (some (.slice none 0 0), 1, 24) := by kernel_rfl
theorem one_sl (a : Option Addr) (m c : Nat) : ∀ u ∈ ([.slice a m c] : List Value), u.oneCell' = true := by
  intro u hu
  rw [List.mem_singleton.1 hu]; rfl
/-- what Rows leaves -/
def RowD (w : World) (V : Nat → Prop) (LL : List (List Int)) (e : Ending) (w' : World) : Prop := ∃ a' c', e = .returned (.slice a' LL.length c') ∧ RwsD w' (fun q => V q ∨ w.heap.size ≤ q) a' LL ∧ Below w.heap.size w w'
/-- one row more, of rows that the call made -/
structure RoA (w0 w : World) (V : Nat → Prop) (LL : List (List Int)) (v : Value) (cs : List Value) : Prop where
  own : w.ownsRow w0.heap.size 55 1 v LL.length cs
  cel : CelD w V cs LL
  b : Below w0.heap.size w0 w
theorem RoA.push {w0 w w4 : World} {V : Nat → Prop} {LL : List (List Int)} {v v' : Value} {cs : List Value} {q : Option Addr} {c : Nat} {xs : List Int} (o : Obj) (hV : ∀ q, V q → q < w0.heap.size) (h : RoA w0 w V LL v cs) (hn : NumsD w V q xs)
    (ho : w4.ownsRow w0.heap.size 55 1 v' (LL.length + 1) (cs ++ [.slice q xs.length c])) (hg : (w.alloc o).grownBy w4 v.ownBlock) : RoA w0 w4 V (LL ++ [xs]) v' (cs ++ [.slice q xs.length c]) := by
  have hb := h.b.size
  have f : Fr w w4 (fun q => v.ownBlock = some q) := ((Fr.refl w _).al o).on ((Fr.of_grown hg).mono (fun q _ h => h.symm))
  have hP : ∀ q, V q → ¬ v.ownBlock = some q := fun q hq e => by
    have := (World.ownsRow.lt h.own q e).1
    have := hV q hq
    omega
  refine ⟨by rw [List.length_append]; exact ho, (h.cel.fr f hP).snoc (hn.fr f hP), h.b.trans (f.below (fun q hq => (World.ownsRow.lt h.own q hq).1) hb)⟩
set_option maxHeartbeats 4000000 in
set_option maxRecDepth 100000 in
theorem rowsD_any {w : World} {V : Nat → Prop} {a : Option Addr} {LL : List (List Int)} (c : Nat) (h : RwsD w V a LL) (hV : ∀ q, V q → q < w.heap.size) (hl : LL.length ≤ 1000) :
    Calls Try.prog 20 #[.slice a LL.length c] w (RowD w V LL) := by
  obtain ⟨i55, hi, hz0, hz1, hz2⟩ := info_parts info55
  have R0 : Hid (RoA w w V [] (.slice none 0 0) []) := Lib.hid ⟨World.ownsRow_nil _ _ _ _, celD_nil _ _, Below.refl _ _⟩
  have SRC := Lib.hid (fun (wr : World) (b : Below w.heap.size w wr) => h.next b)
  obtain ⟨n, hn⟩ : ∃ n, n = LL.length := ⟨_, rfl⟩
  have HN := Lib.hid hn
  have Q9 : Hid (∀ wr va vc cs, RoA w wr V LL (.slice va n vc) cs → RowD w V LL (.returned (.slice va n vc)) wr) := Lib.hid (fun wr va vc cs k => ⟨va, vc, by rw [hn], k.cel.rws k.own (fun _ hq => .inl hq) (fun _ hq => .inr hq), k.b⟩)
  rw [← hn] at hl ⊢
  have hVh := Lib.hid hV
  have hlI : (n : Int) ≤ 1000 := by omega
  generalize RowD w V LL = Q at *
  clear h hV hn
  go_enter Try.func20, Try.ntmps20
  go_wp2_with fail
  go_loopw [3, 4] (fun v i wr => ∃ (j : Nat) (cs : List Value), i = .int .i64 j ∧ j ≤ n ∧ Hid (RoA w wr V (LL.take j) v cs))
    (fun v i wr => n - (intOf i).toNat)
  case atStart => exact ⟨0, [], rfl, Nat.zero_le _, R0⟩
  case round =>
    obtain ⟨j, cs, rfl, hj, hR⟩ := hrel
    clear R0
    have ljn : (LL.take j).length = j := by rw [List.length_take, Nat.min_eq_left (by rw [← HN.out]; exact hj)]
    have O1 := hR.out.own
    rw [ljn] at O1
    obtain ⟨va, vc, rfl⟩ := own_slice O1
    by_cases hjn : j < n
    · have jI : (j : Int) < (n : Int) := by omega
      have jB := decide_eq_true jI
      have hjL : j < LL.length := by rw [← HN.out]; exact hjn
      obtain ⟨x, hx⟩ : ∃ x, x = LL[j]'hjL := ⟨_, rfl⟩
      have hTk : LL.take (j + 1) = LL.take j ++ [x] := by rw [hx]; exact List.take_succ_eq_append_getElem hjL
      obtain ⟨g, o, q, cq, rfl, hgs, hgv, ck, nn⟩ := SRC.out wr hR.out.b j hjL
      rw [← hx] at ck nn
      have PU := Lib.hid (fun (w4 : World) (v' : Value) (o : Obj) ho hg => hR.out.push (w4 := w4) (v' := v') (c := cq) o hVh.out nn ho hg)
      rw [ljn, ← hTk] at PU
      have OW := Lib.hid O1
      have hbs := hR.out.b.size
      clear hR O1 nn hgs hgv hTk hx
      generalize x.length = m at *
      go_wp2_with (at_builtin; refine wpList_append_own _ rfl _ _ 56 rfl w.heap.size 55 i55 (.slice none 0 0) 1 24 Try.underlying56 hi hz0 hz1 hz2 rfl (by decide) (.slice va j vc) j cs rfl (OW.out.alloc _) ⟨wr.heap.size, 0, none⟩ 1 1 [.slice q m cq] rfl rfl (World.news_of_block (cs := #[.slice q m cq]) (heap_alloc_new wr _)) (one_sl q m cq) (by unfold maxLen; omega) (by omega) (by simp; omega) ?_; intro v' w3 ho hg2 _; have K4h := Lib.hid (PU.out w3 v' _ ho hg2); clear ho hg2)
      go_roundw
      case rel => exact ⟨j + 1, _, by go_num, by omega, K4h⟩
      case measure => simp [intOf]; omega
    · obtain rfl : j = n := by omega
      have jI : ¬ (j : Int) < (j : Int) := by omega
      have hT : LL.take j = LL := List.take_of_length_le (Nat.le_of_eq HN.out.symm)
      have F9 : Hid (Q (.returned (.slice va j vc)) wr) := Lib.hid (Q9.out wr va vc cs (by have := hR.out; rw [hT] at this; exact this))
      clear hR O1
      go_wp2_with fail
      (try go_ret)
      exact F9.out
end Go.Proofs.Ytbghjcfepjbppaa
/-
  THE DOCUMENT's READER IS TOLD.
-/
namespace Go.Proofs.Ytbghjcfepjbppaa
open Go.RowKit
/-- numbers and rows side by side, that the call made -/
structure TwoA (w0 w : World) (V : Nat → Prop) (Ns : List Int) (Gs : List (List Int)) (va vb : Value) (cs : List Value) : Prop where
  ints : w.ownsRow w0.heap.size 3 1 va Ns.length (Ns.map (Value.int .i64))
  rows : RoA w0 w V Gs vb cs
theorem own_ne {w : World} {B1 B2 t1 t2 s1 s2 n1 n2 : Nat} {v1 v2 : Value} {x1 x2 : List Value} (h1 : w.ownsRow B1 t1 s1 v1 n1 x1) (h2 : w.ownsRow B2 t2 s2 v2 n2 x2) (ht : t1 ≠ t2) {q : Nat} (e1 : v1.ownBlock = some q) : v2.ownBlock ≠ some q := by
  intro e2
  rcases h1.2 with ⟨rfl, _⟩ | ⟨g1, c1, cur1, rfl, _, hg1, _⟩
  · simp [Value.ownBlock] at e1
  · rcases h2.2 with ⟨rfl, _⟩ | ⟨g2, c2, cur2, rfl, _, hg2, _⟩
    · simp [Value.ownBlock] at e2
    · have h3 : g1 = q := by simpa [Value.ownBlock] using e1
      have h4 : g2 = q := by simpa [Value.ownBlock] using e2
      subst h3 h4
      rw [hg1] at hg2
      simp only [Option.some.injEq, Obj.cells.injEq] at hg2
      exact ht hg2.2.1
theorem TwoA.int {w0 w w4 : World} {V : Nat → Prop} {Ns : List Int} {Gs : List (List Int)} {va vb v' : Value} {cs : List Value} {x : Int} (o : Obj) (hV : ∀ q, V q → q < w0.heap.size) (h : TwoA w0 w V Ns Gs va vb cs)
    (ho : w4.ownsRow w0.heap.size 3 1 v' (Ns.length + 1) (Ns.map (Value.int .i64) ++ [.int .i64 x])) (hg : (w.alloc o).grownBy w4 va.ownBlock) : TwoA w0 w4 V (Ns ++ [x]) Gs v' vb cs := by
  have hb := h.rows.b.size
  have f : Fr w w4 (fun q => va.ownBlock = some q) := ((Fr.refl w _).al o).on ((Fr.of_grown hg).mono (fun q _ h => h.symm))
  refine ⟨by rw [List.length_append, List.map_append]; exact ho, ⟨Fr.own h.rows.own f (fun q hq e => own_ne h.ints h.rows.own (by decide) e hq), h.rows.cel.fr f (fun q hq e => ?_), h.rows.b.trans (f.below (fun q hq => (World.ownsRow.lt h.ints q hq).1) hb)⟩⟩
  have := (World.ownsRow.lt h.ints q e).1
  have := hV q hq
  omega
theorem TwoA.row {w0 w w4 : World} {V : Nat → Prop} {Ns : List Int} {Gs : List (List Int)} {va vb v' : Value} {cs : List Value} {q : Option Addr} {c : Nat} {xs : List Int} (o : Obj) (hV : ∀ q, V q → q < w0.heap.size) (h : TwoA w0 w V Ns Gs va vb cs) (hn : NumsD w V q xs)
    (ho : w4.ownsRow w0.heap.size 55 1 v' (Gs.length + 1) (cs ++ [.slice q xs.length c])) (hg : (w.alloc o).grownBy w4 vb.ownBlock) : TwoA w0 w4 V Ns (Gs ++ [xs]) va v' (cs ++ [.slice q xs.length c]) := by
  have f : Fr w w4 (fun q => vb.ownBlock = some q) := ((Fr.refl w _).al o).on ((Fr.of_grown hg).mono (fun q _ h => h.symm))
  exact ⟨Fr.own h.ints f (fun q hq e => own_ne h.rows.own h.ints (by decide) e hq), h.rows.push o hV hn ho hg⟩
theorem nums_own {w : World} {B : Nat} {a : Option Addr} {n c : Nat} {xs : List Int} {V : Nat → Prop} (h : w.ownsRow B 3 1 (.slice a n c) xs.length (xs.map (Value.int .i64))) (hV : ∀ q, B ≤ q → V q) : NumsD w V a xs := by
  have h0 := h
  rcases h.2 with ⟨e, e'⟩ | ⟨g, cap, cur, e, hb, hg, _⟩
  · have : xs = [] := List.length_eq_zero_iff.1 e'
    subst this
    exact numsD_nil _ _ _
  · obtain ⟨rfl, rfl, rfl⟩ : a = some ⟨g, 0, none⟩ ∧ n = xs.length ∧ c = cap := by
      simp only [Value.slice.injEq] at e; exact e
    refine ⟨fun p hp => ⟨g, 0, rfl, (Array.getElem?_eq_some_iff.1 hg).1, ?_⟩, fun p hp _ => by cases hp; exact hV _ hb⟩
    rw [Nat.zero_add, h0.cellAt _ (by omega)]
    simp [hp]
/-- the document's reader as a value -/
def docV (nodes to at_ gone : Int) (nv gv : Value) : Value := .agg #[.int .i64 nodes, .int .i64 to, .int .i64 at_, .int .i64 gone, nv, gv]
/-- what Told leaves of the document's reader -/
def DocR (w : World) (V : Nat → Prop) (nodes to at_ gone : Int) (LG : List (Int × List Int)) (e : Ending) (w' : World) : Prop :=
  ∃ an cn ag cg, e = .returned (docV nodes to at_ gone (.slice an LG.length cn) (.slice ag LG.length cg)) ∧ NumsD w' (fun q => V q ∨ w.heap.size ≤ q) an (LG.map (·.1)) ∧ RwsD w' (fun q => V q ∨ w.heap.size ≤ q) ag (LG.map (·.2)) ∧ Below w.heap.size w w'
/-- the document's reader in a block -/
structure DocA (w : World) (V : Nat → Prop) (an ag : Option Addr) (LG : List (Int × List Int)) : Prop where
  n : NumsD w V an (LG.map (·.1))
  g : RwsD w V ag (LG.map (·.2))
theorem DocA.next {w w' : World} {V : Nat → Prop} {an ag : Option Addr} {LG : List (Int × List Int)} (h : DocA w V an ag LG) (b : Below w.heap.size w w') : DocA w' V an ag LG := ⟨h.n.next b, h.g.next b⟩
theorem boxes58 (w : World) (nodes to at_ gone : Int) (nv gv : Value) : ∃ w1, w1 = (w.alloc (.cells #[.int .i64 nodes, .int .i64 to, .int .i64 at_, .int .i64 gone, nv, gv] 58)).alloc (.cells #[.int .i64 0, .int .i64 0, .int .i64 0, .int .i64 0, .slice none 0 0, .slice none 0 0] 58) ∧
    Blk w1 w.heap.size 58 #[.int .i64 nodes, .int .i64 to, .int .i64 at_, .int .i64 gone, nv, gv] ∧ Blk w1 (w.heap.size + 1) 58 #[.int .i64 0, .int .i64 0, .int .i64 0, .int .i64 0, .slice none 0 0, .slice none 0 0] ∧ Below w.heap.size w w1 ∧ w1.heap.size = w.heap.size + 1 + 1 :=
  ⟨_, rfl, (Blk.new w 58 _).below ((Below.refl _ _).alloc (Nat.le_refl _) _), by have := Blk.new (w.alloc (.cells #[.int .i64 nodes, .int .i64 to, .int .i64 at_, .int .i64 gone, nv, gv] 58)) 58 #[.int .i64 0, .int .i64 0, .int .i64 0, .int .i64 0, .slice none 0 0, .slice none 0 0]; simpa using this, ((Below.refl w.heap.size w).alloc (Nat.le_refl _) _).alloc (by simp) _, by simp⟩
theorem below6 {B Y : Nat} {w w3 : World} (h : Below B w w3) (hB : B ≤ Y) (a b c d e f : Value) : Below B w ((((((w3.setCell ⟨Y, 0, none⟩ a).setCell ⟨Y, 1, none⟩ b).setCell ⟨Y, 2, none⟩ c).setCell ⟨Y, 3, none⟩ d).setCell ⟨Y, 4, none⟩ e).setCell ⟨Y, 5, none⟩ f) :=
  (below5 h hB a b c d e).setCell (p := ⟨Y, 5, none⟩) hB _
set_option maxHeartbeats 4000000 in
set_option maxRecDepth 100000 in
theorem rtold_gone {w : World} {V : Nat → Prop} {nodes to at_ gone : Int} {an ag : Option Addr} {cn cg : Nat} {LG : List (Int × List Int)} (a : Option Addr) (m c : Nat) (n : Int) (h : DocA w V an ag LG) (ha : 0 ≤ at_ ∧ 0 ≤ gone ∧ gone ≤ at_) (hn : n ≤ 9223372036854775807) (h1 : at_ < n) :
    Calls Try.prog 19 #[docV nodes to at_ gone (.slice an LG.length cn) (.slice ag LG.length cg), .slice a m c, .int .i64 n, .int .i64 180] w (DocR w V nodes to n (gone + (n - at_)) LG) := by
  have F9 : Hid (∀ o1 o2, DocR w V nodes to n (gone + (n - at_)) LG (.returned (docV nodes to n (gone + (n - at_)) (.slice an LG.length cn) (.slice ag LG.length cg))) ((w.alloc o1).alloc o2)) := Lib.hid (fun o1 o2 => by
    have b : Below w.heap.size w ((w.alloc o1).alloc o2) := ((Below.refl w.heap.size w).alloc (Nat.le_refl _) _).alloc (by simp) _
    exact ⟨an, cn, ag, cg, rfl, (h.n.next b).mono (fun _ hq => .inl hq), (h.g.next b).mono (fun _ hq => .inl hq), b⟩)
  obtain ⟨ha0, ha1, ha2⟩ := ha
  have hww : wrap64 (wrap64 (gone + n) - at_) = gone + (n - at_) := by unfold wrap64; omega
  unfold docV at F9 ⊢
  generalize DocR w V nodes to n (gone + (n - at_)) LG = Q at *
  clear h
  generalize LG.length = r at *
  generalize gone + (n - at_) = g2 at *
  go_enter Try.func19, Try.ntmps19
  go_wp2_with fail
  refine bodyPost_ret (by simp [results, Try.results19, go_sem]; try rfl) rfl ?_
  exact F9.out _ _
set_option maxHeartbeats 4000000 in
set_option maxRecDepth 100000 in
theorem rtold_next {w : World} {V : Nat → Prop} {nodes to at_ gone : Int} {an ag : Option Addr} {cn cg : Nat} {LG : List (Int × List Int)} (a : Option Addr) (m c : Nat) (n e : Int) (h : DocA w V an ag LG) (ht : 0 ≤ to ∧ to ≤ 100) (ha : 0 ≤ at_) (hn : n ≤ 9223372036854775807)
    (h0 : e = 0 → ¬ (at_ ≤ n ∧ n - at_ = (m : Int))) (h1 : e = 180 → ¬ at_ < n) :
    Calls Try.prog 19 #[docV nodes to at_ gone (.slice an LG.length cn) (.slice ag LG.length cg), .slice a m c, .int .i64 n, .int .i64 e] w (DocR w V nodes (nextN to nodes) at_ gone LG) := by
  have F9 : Hid (∀ o1 o2, DocR w V nodes (nextN to nodes) at_ gone LG (.returned (docV nodes (nextN to nodes) at_ gone (.slice an LG.length cn) (.slice ag LG.length cg))) ((w.alloc o1).alloc o2)) := Lib.hid (fun o1 o2 => by
    have b : Below w.heap.size w ((w.alloc o1).alloc o2) := ((Below.refl w.heap.size w).alloc (Nat.le_refl _) _).alloc (by simp) _
    exact ⟨an, cn, ag, cg, rfl, (h.n.next b).mono (fun _ hq => .inl hq), (h.g.next b).mono (fun _ hq => .inl hq), b⟩)
  have NX := Lib.hid (fun W => rnext_any to nodes W ht)
  unfold docV at F9 ⊢
  generalize DocR w V nodes (nextN to nodes) at_ gone LG = Q at *
  clear h
  generalize LG.length = r at *
  generalize nextN to nodes = nx at *
  by_cases he : e = 0
  · subst he
    by_cases hl : at_ ≤ n
    · have hd : decide (at_ ≤ n) = true := decide_eq_true hl
      have hw : wrap64 (n - at_) = n - at_ := by unfold wrap64; omega
      have hq : (n - at_ == (m : Int)) = false := by
        rw [beq_eq_false_iff_ne]
        intro h; exact h0 rfl ⟨hl, h⟩
      clear h0 h1
      go_enter Try.func19, Try.ntmps19
      go_wp2_with fail
      refine (NX.out _).mono ?_
      rintro e w2 ⟨rfl, rfl⟩
      go_wp2_with fail
      refine bodyPost_ret (by simp [results, Try.results19, go_sem]; try rfl) rfl ?_
      exact F9.out _ _
    · have hd : decide (at_ ≤ n) = false := decide_eq_false hl
      clear h0 h1
      go_enter Try.func19, Try.ntmps19
      go_wp2_with fail
      refine (NX.out _).mono ?_
      rintro e w2 ⟨rfl, rfl⟩
      go_wp2_with fail
      refine bodyPost_ret (by simp [results, Try.results19, go_sem]; try rfl) rfl ?_
      exact F9.out _ _
  · have he0 : (e == 0) = false := by rw [beq_eq_false_iff_ne]; exact he
    by_cases he1 : e = 180
    · subst he1
      have hd : decide (at_ < n) = false := decide_eq_false (h1 rfl)
      clear h0 h1 he he0
      go_enter Try.func19, Try.ntmps19
      go_wp2_with fail
      refine (NX.out _).mono ?_
      rintro e w2 ⟨rfl, rfl⟩
      go_wp2_with fail
      refine bodyPost_ret (by simp [results, Try.results19, go_sem]; try rfl) rfl ?_
      exact F9.out _ _
    · have he2 : (e == 180) = false := by rw [beq_eq_false_iff_ne]; exact he1
      clear h0 h1 he he1
      go_enter Try.func19, Try.ntmps19
      go_wp2_with fail
      refine (NX.out _).mono ?_
      rintro e w2 ⟨rfl, rfl⟩
      go_wp2_with fail
      refine bodyPost_ret (by simp [results, Try.results19, go_sem]; try rfl) rfl ?_
      exact F9.out _ _
end Go.Proofs.Ytbghjcfepjbppaa
/-
  THE DOCUMENT's READER IS TOLD: it takes matches.
-/
namespace Go.Proofs.Ytbghjcfepjbppaa
open Go.RowKit
theorem info3' : (Try.prog.info? 3).map (fun i => (i.zero, i.size, i.bytes)) = some (some (.int .i64 0), 1, 8) := by kernel_rfl
theorem one_int (x : Int) : ∀ u ∈ ([.int .i64 x] : List Value), u.oneCell' = true := by
  intro u hu
  rw [List.mem_singleton.1 hu]; rfl
theorem map_fst_numb : ∀ (a : Int) (l : List (List Int)), (numb a l).map (·.2) = l
  | _, [] => rfl
  | a, x :: l => by show x :: (numb (a + 1) l).map (·.2) = x :: l; rw [map_fst_numb]
set_option maxHeartbeats 8000000 in
set_option maxRecDepth 100000 in
theorem rtold_take {w : World} {V : Nat → Prop} {nodes to at_ gone : Int} {an ag : Option Addr} {cn cg : Nat} {LG : List (Int × List Int)} {a : Option Addr} {LL : List (List Int)} (c : Nat) (n : Int) (h : DocA w V an ag LG) (hV : ∀ q, V q → q < w.heap.size) (hR : RwsD w V a LL)
    (hl : LL.length ≤ 20) (hg : LG.length ≤ 5000) (ha : 0 ≤ at_) (hn : n ≤ 9223372036854775807) (h1 : n - at_ = (LL.length : Int)) :
    Calls Try.prog 19 #[docV nodes to at_ gone (.slice an LG.length cn) (.slice ag LG.length cg), .slice a LL.length c, .int .i64 n, .int .i64 0] w (DocR w V nodes to n gone (LG ++ numb at_ LL)) := by
  obtain ⟨i3, gi, gz0, gz1, gz2⟩ := info_parts info3'
  obtain ⟨i55, hi, hz0, hz1, hz2⟩ := info_parts info55
  obtain ⟨w1, hw1, K1, Z1, B1, hs1⟩ := boxes58 w nodes to at_ gone (.slice an LG.length cn) (.slice ag LG.length cg)
  have W1 := Lib.hid hw1
  have hV1 : Hid (∀ q, V q → q < w1.heap.size) := Lib.hid (fun q hq => by have := hV q hq; omega)
  have T0 : Hid (TwoA w1 w1 V [] [] (.slice none 0 0) (.slice none 0 0) []) := Lib.hid ⟨World.ownsRow_nil _ _ _ _, World.ownsRow_nil _ _ _ _, celD_nil _ _, Below.refl _ _⟩
  have KK := Lib.hid (fun (wr : World) (b : Below w1.heap.size w1 wr) => K1.below b)
  have ZZ := Lib.hid (fun (wr : World) (b : Below w1.heap.size w1 wr) => Z1.below b)
  have NN := Lib.hid (fun (wr : World) (b : Below w1.heap.size w1 wr) => (h.n.next B1).next b)
  have GG := Lib.hid (fun (wr : World) (b : Below w1.heap.size w1 wr) => (h.g.next B1).next b)
  have RR := Lib.hid (fun (wr : World) (b : Below w1.heap.size w1 wr) => (hR.next B1).next b)
  have BB := Lib.hid B1
  obtain ⟨r, hr⟩ : ∃ r, r = LG.length := ⟨_, rfl⟩
  obtain ⟨m, hm⟩ : ∃ m, m = LL.length := ⟨_, rfl⟩
  have HR := Lib.hid hr
  have HM := Lib.hid hm
  have F9 : Hid (∀ w9 va ca vb cb cs, TwoA w1 w9 V ((LG ++ numb at_ LL).map (·.1)) ((LG ++ numb at_ LL).map (·.2)) (.slice va (r + m) ca) (.slice vb (r + m) cb) cs →
      ∀ x0 x1 x2 y0 y1 y2 y3 y4 y5, DocR w V nodes to n gone (LG ++ numb at_ LL) (.returned (docV nodes to n gone (.slice va (r + m) ca) (.slice vb (r + m) cb))) ((((((((( w9.setCell ⟨w.heap.size, 4, none⟩ x0).setCell ⟨w.heap.size, 5, none⟩ x1).setCell ⟨w.heap.size, 2, none⟩ x2).setCell ⟨w.heap.size + 1, 0, none⟩ y0).setCell ⟨w.heap.size + 1, 1, none⟩ y1).setCell ⟨w.heap.size + 1, 2, none⟩ y2).setCell ⟨w.heap.size + 1, 3, none⟩ y3).setCell ⟨w.heap.size + 1, 4, none⟩ y4).setCell ⟨w.heap.size + 1, 5, none⟩ y5)) := Lib.hid (by
    intro w9 va ca vb cb cs T x0 x1 x2 y0 y1 y2 y3 y4 y5
    have ln : (LG ++ numb at_ LL).length = r + m := by rw [List.length_append, numb_len, hr, hm]
    have b1 : Below w.heap.size w w9 := BB.out.trans (T.rows.b.mono (by omega))
    have fx : Fr w9 ((((((((( w9.setCell ⟨w.heap.size, 4, none⟩ x0).setCell ⟨w.heap.size, 5, none⟩ x1).setCell ⟨w.heap.size, 2, none⟩ x2).setCell ⟨w.heap.size + 1, 0, none⟩ y0).setCell ⟨w.heap.size + 1, 1, none⟩ y1).setCell ⟨w.heap.size + 1, 2, none⟩ y2).setCell ⟨w.heap.size + 1, 3, none⟩ y3).setCell ⟨w.heap.size + 1, 4, none⟩ y4).setCell ⟨w.heap.size + 1, 5, none⟩ y5) (fun q => q = w.heap.size ∨ q = w.heap.size + 1) :=
      ((((((((((Fr.refl w9 _).set _ 4 x0 (.inl (.inl rfl))).set _ 5 x1 (.inl (.inl rfl))).set _ 2 x2 (.inl (.inl rfl))).set _ 0 y0 (.inl (.inr rfl))).set _ 1 y1 (.inl (.inr rfl))).set _ 2 y2 (.inl (.inr rfl))).set _ 3 y3 (.inl (.inr rfl))).set _ 4 y4 (.inl (.inr rfl))).set _ 5 y5 (.inl (.inr rfl)))
    have lmap1 : ((LG ++ numb at_ LL).map (·.1)).length = r + m := by rw [List.length_map, ln]
    have lmap2 : ((LG ++ numb at_ LL).map (·.2)).length = r + m := by rw [List.length_map, ln]
    have nA : NumsD w9 (fun q => V q ∨ w1.heap.size ≤ q) va ((LG ++ numb at_ LL).map (·.1)) := nums_own T.ints (fun q hq => .inr hq)
    have gA : RwsD w9 (fun q => V q ∨ w1.heap.size ≤ q) vb ((LG ++ numb at_ LL).map (·.2)) := T.rows.cel.rws T.rows.own (fun _ hq => .inl hq) (fun _ hq => .inr hq)
    have hP : ∀ q, (V q ∨ w1.heap.size ≤ q) → ¬ (q = w.heap.size ∨ q = w.heap.size + 1) := fun q hq hh => by
      rcases hq with hq | hq
      · have := hV q hq; omega
      · omega
    refine ⟨va, ca, vb, cb, by rw [ln], (nA.fr fx hP).mono (fun q hq => ?_), (gA.fr fx hP).mono (fun q hq => ?_), b1.trans (fx.below (fun q hq => by omega) b1.size)⟩
    · rcases hq with hq | hq
      · exact .inl hq
      · right; omega
    · rcases hq with hq | hq
      · exact .inl hq
      · right; omega)
  have hw : wrap64 (n - at_) = n - at_ := by unfold wrap64; omega
  have hd1 : decide (at_ ≤ n) = true := decide_eq_true (by omega)
  have hd2 : (n - at_ == (m : Int)) = true := by rw [beq_iff_eq, hm]; exact h1
  have hn2 : at_ + (m : Int) = n := by rw [hm]; omega
  rw [← hr] at W1 hg KK ⊢
  rw [← hm] at hl ⊢
  unfold docV at F9 ⊢
  generalize DocR w V nodes to n gone (LG ++ numb at_ LL) = Q at *
  clear K1 Z1 B1 hw1 h hV hR h1 hr hm
  have hlI : (m : Int) ≤ 20 := by omega
  have hgI : (r : Int) ≤ 5000 := by omega
  generalize hy : w.heap.size = Y at *
  go_enter Try.func19, Try.ntmps19
  go_wp2_with fail
  rw [← W1.out]
  go_loopw [9, 10, 11] (fun va vb i wr => ∃ (j : Nat) (cs : List Value), i = .int .i64 j ∧ j ≤ r ∧ Hid (TwoA w1 wr V ((LG.take j).map (·.1)) ((LG.take j).map (·.2)) va vb cs))
    (fun va vb i wr => r - (intOf i).toNat)
  case atStart => exact ⟨0, [], rfl, Nat.zero_le _, T0⟩
  case round =>
    obtain ⟨j, cs, rfl, hj, hR⟩ := hrel
    clear T0
    have l1 : ((LG.take j).map (·.1)).length = j := by rw [List.length_map, List.length_take, Nat.min_eq_left (by rw [← HR.out]; exact hj)]
    have l2 : ((LG.take j).map (·.2)).length = j := by rw [List.length_map, List.length_take, Nat.min_eq_left (by rw [← HR.out]; exact hj)]
    have O1 := hR.out.ints
    have O2 := hR.out.rows.own
    rw [l1] at O1
    rw [l2] at O2
    obtain ⟨va, ca, rfl⟩ := own_slice O1
    obtain ⟨vb, cb, rfl⟩ := own_slice O2
    have k4 : wr.cell? ⟨Y, 4, none⟩ = some (.slice an r cn) := (KK.out wr hR.out.rows.b).cell 4
    by_cases hjn : j < r
    · have jI : (j : Int) < (r : Int) := by omega
      have jB := decide_eq_true jI
      have hjL : j < LG.length := by rw [← HR.out]; exact hjn
      obtain ⟨x, hx⟩ : ∃ x, x = LG[j]'hjL := ⟨_, rfl⟩
      have hTk : LG.take (j + 1) = LG.take j ++ [x] := by rw [hx]; exact List.take_succ_eq_append_getElem hjL
      have hm1 : (LG.take (j + 1)).map (·.1) = (LG.take j).map (·.1) ++ [x.1] := by rw [hTk]; simp
      have hm2 : (LG.take (j + 1)).map (·.2) = (LG.take j).map (·.2) ++ [x.2] := by rw [hTk]; simp
      obtain ⟨gn, on, rfl, hgn, cn1⟩ := (NN.out wr hR.out.rows.b).1 j (by rw [List.length_map]; exact hjL)
      rw [show (LG.map (·.1))[j]'(by rw [List.length_map]; exact hjL) = x.1 by rw [hx]; simp] at cn1
      have GR : Hid (∀ w3, Below w1.heap.size w1 w3 → ∃ gg og q cq, ag = some ⟨gg, og, none⟩ ∧ w3.cell? ⟨gg, og + j, none⟩ = some (.slice q x.2.length cq) ∧ NumsD w3 V q x.2) := Lib.hid (fun w3 b => by
        obtain ⟨gg, og, q, cq, e, _, _, ck, nn⟩ := (GG.out w3 b) j (by rw [List.length_map]; exact hjL)
        have e2 : (LG.map (·.2))[j]'(by rw [List.length_map]; exact hjL) = x.2 := by rw [hx]; simp
        rw [e2] at ck nn
        exact ⟨gg, og, q, cq, e, ck, nn⟩)
      have PU1 := Lib.hid (fun (w4 : World) (v' : Value) (o : Obj) ho hg => hR.out.int (w4 := w4) (v' := v') (x := x.1) o hV1.out ho hg)
      rw [l1, ← hm1] at PU1
      have PU2 := Lib.hid (fun (w3 w4 : World) (v1 v' : Value) (o : Obj) (q : Option Addr) (cq : Nat) (T : TwoA w1 w3 V ((LG.take (j + 1)).map (·.1)) ((LG.take j).map (·.2)) v1 (.slice vb j cb) cs) hn ho hg => T.row (w4 := w4) (v' := v') (q := q) (c := cq) (xs := x.2) o hV1.out hn ho hg)
      rw [l2, ← hm2] at PU2
      have OWI := Lib.hid O1
      have OWR := Lib.hid (fun (w3 : World) (v1 : Value) (T : TwoA w1 w3 V ((LG.take (j + 1)).map (·.1)) ((LG.take j).map (·.2)) v1 (.slice vb j cb) cs) => T.rows.own)
      rw [l2] at OWR
      have OWJ := Lib.hid (fun (w3 : World) (v1 : Value) (T : TwoA w1 w3 V ((LG.take (j + 1)).map (·.1)) ((LG.take j).map (·.2)) v1 (.slice vb j cb) cs) => T.ints)
      have hbs := hR.out.rows.b.size
      clear hR O1 O2 l1 l2 hTk hm1 hm2 hx hgn
      obtain ⟨xn, xg⟩ := x
      simp only at cn1 GR PU1 PU2
      generalize hmI : ((LG.take j).map (·.1)).map (Value.int .i64) = mI at *
      generalize xg.length = mm at *
      go_wp2_with (at_builtin; (first
        | (refine wpList_append_own _ rfl _ _ 55 rfl w1.heap.size 3 i3 (.int .i64 0) 1 8 Try.underlying55 gi gz0 gz1 gz2 rfl (by decide) (.slice va j ca) j mI rfl (OWI.out.alloc _) ⟨wr.heap.size, 0, none⟩ 1 1 [.int .i64 xn] rfl rfl (World.news_of_block (cs := #[.int .i64 xn]) (heap_alloc_new wr _)) (one_int xn) (by unfold maxLen; omega) (by omega) (by simp; omega) ?_; intro v3 w3 ho hg2 _; have T3 := Lib.hid (PU1.out w3 v3 _ ho hg2); obtain ⟨va3, ca3, rfl⟩ := own_slice ho; have k5 : w3.cell? ⟨Y, 5, none⟩ = some (.slice ag r cg) := (KK.out w3 T3.out.rows.b).cell 5; obtain ⟨gg, og, q, cq, rfl, ck, nn⟩ := GR.out w3 T3.out.rows.b; have nn3 := Lib.hid nn; have OW3 := Lib.hid (OWR.out w3 _ T3.out); have hb3 := T3.out.rows.b.size; clear ho hg2 nn)
        | (refine wpList_append_own _ rfl _ _ 56 rfl w1.heap.size 55 i55 (.slice none 0 0) 1 24 Try.underlying56 hi hz0 hz1 hz2 rfl (by decide) (.slice vb j cb) j cs rfl (OW3.out.alloc _) ⟨w3.heap.size, 0, none⟩ 1 1 [.slice q mm cq] rfl rfl (World.news_of_block (cs := #[.slice q mm cq]) (heap_alloc_new w3 _)) (one_sl q mm cq) (by unfold maxLen; omega) (by omega) (by simp; omega) ?_; intro v4 w4 ho4 hg4 _; have T4 := Lib.hid (PU2.out w3 w4 _ v4 _ q cq T3.out nn3.out ho4 hg4); clear ho4 hg4)))
      go_roundw
      case rel => exact ⟨j + 1, _, by go_num, by omega, T4⟩
      case measure => simp [intOf]; omega
    · obtain rfl : j = r := by omega
      have jI : ¬ (j : Int) < (j : Int) := by omega
      have hT : LG.take j = LG := List.take_of_length_le (Nat.le_of_eq HR.out.symm)
      have T1 : Hid (TwoA w1 wr V (LG.map (·.1)) (LG.map (·.2)) (.slice va j ca) (.slice vb j cb) cs) := Lib.hid (by have := hR.out; rw [hT] at this; exact this)
      clear hR O1 O2 l1 l2
      go_wp2_with fail
      clear k4 GG NN
      go_loopw [9, 10, 12] (fun va vb i wr => ∃ (j2 : Nat) (cs : List Value), i = .int .i64 j2 ∧ j2 ≤ m ∧ Hid (TwoA w1 wr V ((LG ++ numb at_ (LL.take j2)).map (·.1)) ((LG ++ numb at_ (LL.take j2)).map (·.2)) va vb cs))
        (fun va vb i wr => m - (intOf i).toNat)
      case atStart => exact ⟨0, cs, rfl, Nat.zero_le _, by simpa [numb] using T1⟩
      case round =>
        obtain ⟨j2, cs, rfl, hj2, hR⟩ := hrel
        clear T1
        have ln : (LG ++ numb at_ (LL.take j2)).length = j + j2 := by rw [List.length_append, numb_len, List.length_take, Nat.min_eq_left (by rw [← HM.out]; exact hj2), ← HR.out]
        have l1 : ((LG ++ numb at_ (LL.take j2)).map (·.1)).length = j + j2 := by rw [List.length_map, ln]
        have l2 : ((LG ++ numb at_ (LL.take j2)).map (·.2)).length = j + j2 := by rw [List.length_map, ln]
        have O1 := hR.out.ints
        have O2 := hR.out.rows.own
        rw [l1] at O1
        rw [l2] at O2
        obtain ⟨va, ca, rfl⟩ := own_slice O1
        obtain ⟨vb, cb, rfl⟩ := own_slice O2
        have k2 : wr.cell? ⟨Y, 2, none⟩ = some (.int .i64 at_) := (KK.out wr hR.out.rows.b).cell 2
        by_cases hjn2 : j2 < m
        · have jI2 : (j2 : Int) < (m : Int) := by omega
          have jB2 := decide_eq_true jI2
          have hjL2 : j2 < LL.length := by rw [← HM.out]; exact hjn2
          obtain ⟨x, hx⟩ : ∃ x, x = LL[j2]'hjL2 := ⟨_, rfl⟩
          have hTk : numb at_ (LL.take (j2 + 1)) = numb at_ (LL.take j2) ++ [(at_ + (j2 : Int), x)] := by rw [hx]; exact numb_take hjL2
          have hm1 : (LG ++ numb at_ (LL.take (j2 + 1))).map (·.1) = (LG ++ numb at_ (LL.take j2)).map (·.1) ++ [at_ + (j2 : Int)] := by rw [hTk, ← List.append_assoc]; simp
          have hm2 : (LG ++ numb at_ (LL.take (j2 + 1))).map (·.2) = (LG ++ numb at_ (LL.take j2)).map (·.2) ++ [x] := by rw [hTk, ← List.append_assoc]; simp
          have GR : Hid (∀ w3, Below w1.heap.size w1 w3 → ∃ gg og q cq, a = some ⟨gg, og, none⟩ ∧ w3.cell? ⟨gg, og + j2, none⟩ = some (.slice q x.length cq) ∧ NumsD w3 V q x) := Lib.hid (fun w3 b => by
            obtain ⟨gg, og, q, cq, e, _, _, ck, nn⟩ := (RR.out w3 b) j2 hjL2
            rw [← hx] at ck nn
            exact ⟨gg, og, q, cq, e, ck, nn⟩)
          have PU1 := Lib.hid (fun (w4 : World) (v' : Value) (o : Obj) ho hg => hR.out.int (w4 := w4) (v' := v') (x := at_ + (j2 : Int)) o hV1.out ho hg)
          rw [l1, ← hm1] at PU1
          have PU2 := Lib.hid (fun (w3 w4 : World) (v1 v' : Value) (o : Obj) (q : Option Addr) (cq : Nat) (T : TwoA w1 w3 V ((LG ++ numb at_ (LL.take (j2 + 1))).map (·.1)) ((LG ++ numb at_ (LL.take j2)).map (·.2)) v1 (.slice vb (j + j2) cb) cs) hn ho hg => T.row (w4 := w4) (v' := v') (q := q) (c := cq) (xs := x) o hV1.out hn ho hg)
          rw [l2, ← hm2] at PU2
          have OWI := Lib.hid O1
          have OWR := Lib.hid (fun (w3 : World) (v1 : Value) (T : TwoA w1 w3 V ((LG ++ numb at_ (LL.take (j2 + 1))).map (·.1)) ((LG ++ numb at_ (LL.take j2)).map (·.2)) v1 (.slice vb (j + j2) cb) cs) => T.rows.own)
          rw [l2] at OWR
          have hbs := hR.out.rows.b.size
          have hwr : wrap64 (at_ + (j2 : Int)) = at_ + (j2 : Int) := by unfold wrap64; omega
          have hjj : j + j2 ≤ 5020 := by omega
          clear hR O1 O2 l1 l2 ln hTk hm1 hm2 hx
          generalize hmI : ((LG ++ numb at_ (LL.take j2)).map (·.1)).map (Value.int .i64) = mI at *
          generalize x.length = mm at *
          generalize j + j2 = jj at *
          go_wp2_with (at_builtin; (first
            | (refine wpList_append_own _ rfl _ _ 55 rfl w1.heap.size 3 i3 (.int .i64 0) 1 8 Try.underlying55 gi gz0 gz1 gz2 rfl (by decide) (.slice va jj ca) jj mI rfl (OWI.out.alloc _) ⟨wr.heap.size, 0, none⟩ 1 1 [.int .i64 (at_ + (j2 : Int))] rfl rfl (World.news_of_block (cs := #[.int .i64 (at_ + (j2 : Int))]) (heap_alloc_new wr _)) (one_int _) (by unfold maxLen; omega) (by omega) (by simp; omega) ?_; intro v3 w3 ho hg2 _; have T3 := Lib.hid (PU1.out w3 v3 _ ho hg2); obtain ⟨va3, ca3, rfl⟩ := own_slice ho; obtain ⟨gg, og, q, cq, rfl, ck, nn⟩ := GR.out w3 T3.out.rows.b; have nn3 := Lib.hid nn; have OW3 := Lib.hid (OWR.out w3 _ T3.out); have hb3 := T3.out.rows.b.size; clear ho hg2 nn)
            | (refine wpList_append_own _ rfl _ _ 56 rfl w1.heap.size 55 i55 (.slice none 0 0) 1 24 Try.underlying56 hi hz0 hz1 hz2 rfl (by decide) (.slice vb jj cb) jj cs rfl (OW3.out.alloc _) ⟨w3.heap.size, 0, none⟩ 1 1 [.slice q mm cq] rfl rfl (World.news_of_block (cs := #[.slice q mm cq]) (heap_alloc_new w3 _)) (one_sl q mm cq) (by unfold maxLen; omega) (by omega) (by simp; omega) ?_; intro v4 w4 ho4 hg4 _; have T4 := Lib.hid (PU2.out w3 w4 _ v4 _ q cq T3.out nn3.out ho4 hg4); clear ho4 hg4)))
          go_roundw
          case rel => exact ⟨j2 + 1, _, by go_num, by omega, T4⟩
          case measure => simp [intOf]; omega
        · obtain rfl : j2 = m := by omega
          have jI2 : ¬ (j2 : Int) < (j2 : Int) := by omega
          have hT2 : LL.take j2 = LL := List.take_of_length_le (Nat.le_of_eq HM.out.symm)
          have F8 := Lib.hid (F9.out wr va ca vb cb cs (by have := hR.out; rw [hT2] at this; exact this))
          have KW := KK.out wr hR.out.rows.b
          have ZW := ZZ.out wr hR.out.rows.b
          have k0 : wr.cell? ⟨Y, 0, none⟩ = some (.int .i64 nodes) := KW.cell 0
          have k1 : wr.cell? ⟨Y, 1, none⟩ = some (.int .i64 to) := KW.cell 1
          have k3 : wr.cell? ⟨Y, 3, none⟩ = some (.int .i64 gone) := KW.cell 3
          have k4 : wr.cell? ⟨Y, 4, none⟩ = some (.slice an j cn) := KW.cell 4
          have k5 : wr.cell? ⟨Y, 5, none⟩ = some (.slice ag j cg) := KW.cell 5
          have fk : ∀ i, wr.frozen? ⟨Y, i, none⟩ = false := KW.free
          have z0 : wr.cell? ⟨Y + 1, 0, none⟩ = some (.int .i64 0) := ZW.cell 0
          have z1 : wr.cell? ⟨Y + 1, 1, none⟩ = some (.int .i64 0) := ZW.cell 1
          have z2 : wr.cell? ⟨Y + 1, 2, none⟩ = some (.int .i64 0) := ZW.cell 2
          have z3 : wr.cell? ⟨Y + 1, 3, none⟩ = some (.int .i64 0) := ZW.cell 3
          have z4 : wr.cell? ⟨Y + 1, 4, none⟩ = some (.slice none 0 0) := ZW.cell 4
          have z5 : wr.cell? ⟨Y + 1, 5, none⟩ = some (.slice none 0 0) := ZW.cell 5
          have fz : ∀ i, wr.frozen? ⟨Y + 1, i, none⟩ = false := ZW.free
          clear hR O1 O2 l1 l2 ln KK ZZ RR F9 KW ZW
          generalize j + j2 = jj at *
          go_wp2_with fail
          refine bodyPost_ret (by simp [results, Try.results19, go_sem, z0, z1, z2, z3, z4, z5]; try rfl) rfl ?_
          exact F8.out _ _ _ _ _ _ _ _ _
end Go.Proofs.Ytbghjcfepjbppaa
/-
  THE DOCUMENT's Order OF TWO EQUAL LISTS.
-/
namespace Go.Proofs.Ytbghjcfepjbppaa
open Go.RowKit
set_option maxHeartbeats 2000000 in
set_option maxRecDepth 100000 in
theorem order_same {w : World} {a b : Option Addr} {xs : List Int} (ca cb : Nat) (ha : Bk.Nums w a xs) (hb : Bk.Nums w b xs) (hl : xs.length ≤ 9223372036854775000) :
    Calls Try.prog 27 #[.slice a xs.length ca, .slice b xs.length cb] w fun e w' => e = .returned (.int .i64 0) ∧ Below w.heap.size w w' := by
  have HA := Lib.hid ha
  have HB := Lib.hid hb
  have B0 := Lib.hid (Below.refl w.heap.size w)
  have hlI : (xs.length : Int) ≤ 9223372036854775000 := by omega
  obtain ⟨n, hn⟩ : ∃ n, n = xs.length := ⟨_, rfl⟩
  have HN := Lib.hid hn
  rw [← hn] at hlI ⊢
  clear ha hb hl hn
  go_enter Try.func27, Try.ntmps27
  go_wp2_with fail
  go_loopw [5] (fun i wr => ∃ (j : Nat), i = .int .i64 j ∧ j ≤ n ∧ Hid (Below w.heap.size w wr)) (fun i wr => n - (intOf i).toNat)
  case atStart => exact ⟨0, rfl, Nat.zero_le _, B0⟩
  case round =>
    obtain ⟨j, rfl, hj, hB⟩ := hrel
    clear B0
    by_cases hjn : j < n
    · have jI : (j : Int) < (n : Int) := by omega
      have jB := decide_eq_true jI
      have hjL : j < xs.length := by rw [← HN.out]; exact hjn
      obtain ⟨ga, oa, rfl, hga, cka⟩ := HA.out j hjL
      obtain ⟨gb, ob, rfl, hgb, ckb⟩ := HB.out j hjL
      have ca' : ∀ d, (wr.drewN d).cell? ⟨ga, oa + j, none⟩ = some (.int .i64 xs[j]) := fun d => (hB.out.cell (p := ⟨ga, _, none⟩) hga).trans cka
      have cb' : ∀ d, (wr.drewN d).cell? ⟨gb, ob + j, none⟩ = some (.int .i64 xs[j]) := fun d => (hB.out.cell (p := ⟨gb, _, none⟩) hgb).trans ckb
      have ca0 : wr.cell? ⟨ga, oa + j, none⟩ = some (.int .i64 xs[j]) := (hB.out.cell (p := ⟨ga, _, none⟩) hga).trans cka
      have cb0 : wr.cell? ⟨gb, ob + j, none⟩ = some (.int .i64 xs[j]) := (hB.out.cell (p := ⟨gb, _, none⟩) hgb).trans ckb
      have BD := Lib.hid (fun d => drewB hB.out d)
      clear cka ckb hB
      generalize xs[j] = x at *
      go_wp2_with fail
      go_quiet (fail)
      go_wp2_with fail
      go_quiet (fail)
      go_wp2_with fail
      go_roundw
      case rel => exact ⟨j + 1, by go_num, by omega, Lib.hid (BD.out _)⟩
      case measure => simp [intOf]; omega
    · obtain rfl : j = n := by omega
      have jI : ¬ (j : Int) < (j : Int) := by omega
      go_wp2_with fail
      go_ret
      exact ⟨rfl, hB.out⟩
end Go.Proofs.Ytbghjcfepjbppaa
/-
  BOTH READERS SIDE BY SIDE.
-/
namespace Go.Proofs.Ytbghjcfepjbppaa
open Go.RowKit
/-- what a reader knows -/
structure RS where
  to : Int
  at_ : Int
  gone : Int
  LG : List (Int × List Int)
/-- a reader is told -/
def RS.told (nodes : Int) (LL : List (List Int)) (n e : Int) (s : RS) : RS :=
  if e = 0 ∧ s.at_ ≤ n ∧ n - s.at_ = (LL.length : Int) then ⟨s.to, n, s.gone, s.LG ++ numb s.at_ LL⟩
  else if e = 180 ∧ s.at_ < n then ⟨s.to, n, s.gone + (n - s.at_), s.LG⟩
  else ⟨nextN s.to nodes, s.at_, s.gone, s.LG⟩
structure RS.Ok (s : RS) (m : Nat) : Prop where
  to : 0 ≤ s.to ∧ s.to ≤ 7
  at_ : 0 ≤ s.at_ ∧ s.at_ ≤ 9223372036854775807
  gone : 0 ≤ s.gone ∧ s.gone ≤ s.at_
  n : s.LG.length ≤ m
  sm : ∀ x ∈ s.LG, x.2.length ≤ 17592186043904
theorem nextN_ok {to nodes : Int} (h : 0 ≤ to ∧ to ≤ 7) (hn : nodes ≤ 7) : 0 ≤ nextN to nodes ∧ nextN to nodes ≤ 7 := by
  unfold nextN; split <;> omega
theorem numb_small : ∀ (a : Int) (LL : List (List Int)), Small LL → ∀ x ∈ numb a LL, x.2.length ≤ 17592186043904
  | _, [], _, x, hx => by simp [numb] at hx
  | a, y :: l, h, x, hx => by
    rcases List.mem_cons.1 hx with rfl | hx
    · exact h y (List.mem_cons_self)
    · exact numb_small (a + 1) l (fun z hz => h z (List.mem_cons_of_mem _ hz)) x hx
theorem RS.Ok.told {s : RS} {m : Nat} {nodes n e : Int} {LL : List (List Int)} (h : s.Ok m) (hN : nodes ≤ 7) (hl : LL.length ≤ 20) (hS : Small LL) (hn : n ≤ 9223372036854775807) : (s.told nodes LL n e).Ok (m + 20) := by
  have h0 := h.at_
  have h1 := h.gone
  have h2 := h.n
  unfold RS.told
  split
  · rename_i c
    exact ⟨h.to, ⟨by show 0 ≤ n; omega, hn⟩, ⟨h1.1, by show s.gone ≤ n; omega⟩, by show (s.LG ++ numb s.at_ LL).length ≤ m + 20; rw [List.length_append, numb_len]; omega, fun x hx => by
      rcases List.mem_append.1 hx with hx | hx
      · exact h.sm x hx
      · exact numb_small _ _ hS x hx⟩
  · split
    · rename_i c
      exact ⟨h.to, ⟨by show 0 ≤ n; omega, hn⟩, ⟨by show 0 ≤ s.gone + (n - s.at_); omega, by show s.gone + (n - s.at_) ≤ n; omega⟩, by show s.LG.length ≤ m + 20; omega, h.sm⟩
    · exact ⟨nextN_ok h.to hN, h0, h1, by show s.LG.length ≤ m + 20; omega, h.sm⟩
theorem told_all {w : World} {U : Nat → Prop} {t : Nat} {nodes : Int} {nm : ByteArray} {most : Int} {s : RS} {m : Nat} {a : Option Addr} {LL : List (List Int)} (c : Nat) (n e : Int)
    (h : RdM w U t nodes s.to nm most s.at_ s.gone s.LG) (ok : s.Ok m) (hm : m ≤ 4900) (hN : nodes ≤ 7) (RW : ∀ w', Fr w w' U → Bk.Rws w' a LL) (hS : Small LL) (hl : LL.length ≤ 20) (hn : n ≤ 9223372036854775807) :
    Calls Try.prog 21 #[.pointer (some ⟨t, 0, none⟩), .slice a LL.length c, .int .i64 n, .int .i64 e] w fun r w' => r = .returned (.tuple #[]) ∧ Rch w U t nodes (s.told nodes LL n e).to nm most (s.told nodes LL n e).at_ (s.told nodes LL n e).gone (s.told nodes LL n e).LG w' := by
  have h0 := ok.at_
  have h1 := ok.gone
  have h2 := ok.n
  have h3 := ok.to
  unfold RS.told
  by_cases c1 : e = 0 ∧ s.at_ ≤ n ∧ n - s.at_ = (LL.length : Int)
  · rw [if_pos c1]
    obtain ⟨rfl, c2, c3⟩ := c1
    exact told_take c n h RW hS hl (by omega) h0.1 hn c3
  · rw [if_neg c1]
    by_cases c2 : e = 180 ∧ s.at_ < n
    · rw [if_pos c2]
      obtain ⟨rfl, c3⟩ := c2
      exact told_gone c n h ⟨h0.1, h1.1, h1.2⟩ hn c3
    · rw [if_neg c2]
      exact told_next c n e h ⟨h3.1, by omega⟩ (by omega) h0.1 hn (fun he hh => c1 ⟨he, hh.1, hh.2⟩) (fun he hh => c2 ⟨he, hh⟩)
theorem rtold_all {w : World} {V : Nat → Prop} {nodes : Int} {an ag : Option Addr} {cn cg : Nat} {s : RS} {m : Nat} {a : Option Addr} {LL : List (List Int)} (c : Nat) (n e : Int) (h : DocA w V an ag s.LG) (ok : s.Ok m) (hm : m ≤ 4900) (hV : ∀ q, V q → q < w.heap.size) (hR : RwsD w V a LL)
    (hl : LL.length ≤ 20) (hn : n ≤ 9223372036854775807) :
    Calls Try.prog 19 #[docV nodes s.to s.at_ s.gone (.slice an s.LG.length cn) (.slice ag s.LG.length cg), .slice a LL.length c, .int .i64 n, .int .i64 e] w (DocR w V nodes (s.told nodes LL n e).to (s.told nodes LL n e).at_ (s.told nodes LL n e).gone (s.told nodes LL n e).LG) := by
  have h0 := ok.at_
  have h1 := ok.gone
  have h2 := ok.n
  have h3 := ok.to
  unfold RS.told
  by_cases c1 : e = 0 ∧ s.at_ ≤ n ∧ n - s.at_ = (LL.length : Int)
  · rw [if_pos c1]
    obtain ⟨rfl, c2, c3⟩ := c1
    exact rtold_take c n h hV hR hl (by omega) h0.1 hn c3
  · rw [if_neg c1]
    by_cases c2 : e = 180 ∧ s.at_ < n
    · rw [if_pos c2]
      obtain ⟨rfl, c3⟩ := c2
      exact rtold_gone a LL.length c n h ⟨h0.1, h1.1, h1.2⟩ hn c3
    · rw [if_neg c2]
      exact rtold_next a LL.length c n e h ⟨h3.1, by omega⟩ h0.1 hn (fun he hh => c1 ⟨he, hh.1, hh.2⟩) (fun he hh => c2 ⟨he, hh⟩)
/-- the document's reader in its block -/
def boxD (nodes : Int) (s : RS) (an : Option Addr) (cn : Nat) (ag : Option Addr) (cg : Nat) : Array Value := #[.int .i64 nodes, .int .i64 s.to, .int .i64 s.at_, .int .i64 s.gone, .slice an s.LG.length cn, .slice ag s.LG.length cg]
/-- both readers: the program's at s, the document's at s2 -/
structure LRa (W0 w : World) (t bx : Nat) (nodes : Int) (nm : ByteArray) (most : Int) (U V : Nat → Prop) (s s2 : RS) (an : Option Addr) (cn : Nat) (ag : Option Addr) (cg : Nat) : Prop where
  rd : RdM w U t nodes s.to nm most s.at_ s.gone s.LG
  bk : Blk w bx 58 (boxD nodes s2 an cn ag cg)
  dc : DocA w V an ag s2.LG
  vl : ∀ q, V q → q < w.heap.size ∧ ¬ U q ∧ q ≠ bx
  va : ∀ q, q < W0.heap.size → V q
  ul : ∀ q, U q → W0.heap.size ≤ q
  ub : ¬ U bx
  bb : W0.heap.size ≤ bx
  b : Below W0.heap.size W0 w
def LR (W0 : World) (t bx : Nat) (nodes : Int) (nm : ByteArray) (most : Int) (s s2 : RS) (w : World) : Prop := ∃ U V an cn ag cg, LRa W0 w t bx nodes nm most U V s s2 an cn ag cg
section
variable {W0 w w' : World} {t bx : Nat} {nodes : Int} {nm : ByteArray} {most : Int} {U V : Nat → Prop} {s s2 : RS} {an : Option Addr} {cn : Nat} {ag : Option Addr} {cg : Nat}
theorem LRa.next (h : LRa W0 w t bx nodes nm most U V s s2 an cn ag cg) (b : Below w.heap.size w w') : LRa W0 w' t bx nodes nm most U V s s2 an cn ag cg :=
  ⟨h.rd.next b, h.bk.below b, h.dc.next b, fun q hq => ⟨Nat.lt_of_lt_of_le (h.vl q hq).1 b.size, (h.vl q hq).2⟩, h.va, h.ul, h.ub, h.bb, h.b.trans (b.mono h.b.size)⟩
theorem LR.next (h : LR W0 t bx nodes nm most s s2 w) (b : Below w.heap.size w w') : LR W0 t bx nodes nm most s s2 w' := by
  obtain ⟨U, V, an, cn, ag, cg, h⟩ := h
  exact ⟨U, V, an, cn, ag, cg, h.next b⟩
/-- the program's reader was told -/
theorem LRa.reader {s' : RS} (h : LRa W0 w t bx nodes nm most U V s s2 an cn ag cg) (k : Rch w U t nodes s'.to nm most s'.at_ s'.gone s'.LG w') : LR W0 t bx nodes nm most s' s2 w' := by
  obtain ⟨U', hr, f, hu⟩ := k
  have hbl := h.bk.lt
  refine ⟨U', V, an, cn, ag, cg, hr, h.bk.fr f h.ub, ⟨h.dc.n.fr f (fun q hq => (h.vl q hq).2.1), h.dc.g.fr f (fun q hq => (h.vl q hq).2.1)⟩, fun q hq => ⟨Nat.lt_of_lt_of_le (h.vl q hq).1 f.size, fun hh => ?_, (h.vl q hq).2.2⟩, h.va, fun q hq => ?_, fun hh => ?_, h.bb, h.b.trans (f.below h.ul h.b.size)⟩
  · rcases hu q hh with h1 | h1
    · exact (h.vl q hq).2.1 h1
    · have := (h.vl q hq).1; omega
  · rcases hu q hq with h1 | h1
    · exact h.ul q h1
    · have := h.b.size; omega
  · rcases hu bx hh with h1 | h1
    · exact h.ub h1
    · omega
/-- the document's reader was told: its answer is stored -/
theorem LRa.doc {s' : RS} {an' : Option Addr} {cn' : Nat} {ag' : Option Addr} {cg' : Nat} {w3 : World} (h : LRa W0 w t bx nodes nm most U V s s2 an cn ag cg)
    (b : Below w.heap.size w w') (n' : NumsD w' (fun q => V q ∨ w.heap.size ≤ q) an' (s'.LG.map (·.1))) (g' : RwsD w' (fun q => V q ∨ w.heap.size ≤ q) ag' (s'.LG.map (·.2)))
    (f : Fr w' w3 (fun q => q = bx)) (bk : Blk w3 bx 58 (boxD nodes s' an' cn' ag' cg')) : LR W0 t bx nodes nm most s s' w3 := by
  have hbl := h.bk.lt
  have hP : ∀ q, (V q ∨ w.heap.size ≤ q) → ¬ q = bx := fun q hq e => by
    rcases hq with hq | hq
    · exact (h.vl q hq).2.2 e
    · omega
  have hw := b.size
  have hw3 := f.size
  have ultop : ∀ q, U q → q < w.heap.size := by
    obtain ⟨gv, cs, A⟩ := h.rd
    exact A.ul
  refine ⟨U, fun q => V q ∨ (w.heap.size ≤ q ∧ q < w3.heap.size), an', cn', ag', cg', (h.rd.next b).fr f (fun q e hu => by subst e; exact h.ub hu), bk, ⟨?_, ?_⟩, fun q hq => ?_, fun q hq => .inl (h.va q hq), h.ul, h.ub, h.bb, (h.b.trans (b.mono h.b.size)).trans (f.below (fun q e => by subst e; exact h.bb) (Nat.le_trans h.b.size hw))⟩
  · have k := n'.fr f hP
    refine ⟨k.1, fun p e hx => ?_⟩
    rcases k.2 p e hx with hv | hv
    · exact .inl hv
    · refine .inr ⟨hv, ?_⟩
      obtain ⟨y, l, hyl⟩ := List.exists_cons_of_ne_nil hx
      obtain ⟨g, o, e2, hg, _⟩ := k.1 0 (by rw [hyl]; simp)
      rw [e2] at e; cases e; exact hg
  · have k := g'.fr f hP
    intro i hi
    obtain ⟨g, o, q, c, e, hl, hv, ck, nn⟩ := k i hi
    refine ⟨g, o, q, c, e, hl, ?_, ck, nn.1, fun p e2 hx => ?_⟩
    · rcases hv with hv | hv
      · exact .inl hv
      · exact .inr ⟨hv, hl⟩
    · rcases nn.2 p e2 hx with hv | hv
      · exact .inl hv
      · refine .inr ⟨hv, ?_⟩
        obtain ⟨y, l, hyl⟩ := List.exists_cons_of_ne_nil hx
        obtain ⟨g3, o3, e3, hg3, _⟩ := nn.1 0 (by rw [hyl]; simp)
        rw [e3] at e2; cases e2; exact hg3
  · rcases hq with hq | ⟨h1, h2⟩
    · exact ⟨Nat.lt_of_lt_of_le (h.vl q hq).1 (Nat.le_trans hw hw3), (h.vl q hq).2⟩
    · exact ⟨h2, fun hu => by have := ultop q hu; omega, fun e => by omega⟩
end
end Go.Proofs.Ytbghjcfepjbppaa
/-
  BOTH READERS ARE TOLD.
-/
namespace Go.Proofs.Ytbghjcfepjbppaa
open Go.RowKit
theorem RwsD.bound {w : World} {V : Nat → Prop} {a : Option Addr} {LL : List (List Int)} (h : RwsD w V a LL) : RwsD w (fun q => V q ∧ q < w.heap.size) a LL := fun i hi => by
  obtain ⟨g, o, q, c, e, hl, hv, ck, nn⟩ := h i hi
  refine ⟨g, o, q, c, e, hl, ⟨hv, hl⟩, ck, nn.1, fun p e2 hx => ⟨nn.2 p e2 hx, ?_⟩⟩
  obtain ⟨y, l, hyl⟩ := List.exists_cons_of_ne_nil hx
  obtain ⟨g3, o3, e3, hg3, _⟩ := nn.1 0 (by rw [hyl]; simp)
  rw [e3] at e2; cases e2; exact hg3
theorem rws_D {w : World} {a : Option Addr} {LL : List (List Int)} (h : Bk.Rws w a LL) : RwsD w (fun q => q < w.heap.size) a LL := fun i hi => by
  obtain ⟨g, o, q, c, e, hl, ck, nn⟩ := h i hi
  refine ⟨g, o, q, c, e, hl, hl, ck, nn, fun p e2 hx => ?_⟩
  obtain ⟨y, l, hyl⟩ := List.exists_cons_of_ne_nil hx
  obtain ⟨g3, o3, e3, hg3, _⟩ := nn 0 (by rw [hyl]; simp)
  rw [e3] at e2; cases e2; exact hg3
/-- the document's reader is told: what its call leaves -/
def DocS (w : World) (V : Nat → Prop) (nodes : Int) (s' : RS) (e : Ending) (w' : World) : Prop :=
  ∃ an cn ag cg, e = .returned (docV nodes s'.to s'.at_ s'.gone (.slice an s'.LG.length cn) (.slice ag s'.LG.length cg)) ∧ NumsD w' (fun q => V q ∨ w.heap.size ≤ q) an (s'.LG.map (·.1)) ∧ RwsD w' (fun q => V q ∨ w.heap.size ≤ q) ag (s'.LG.map (·.2)) ∧ Below w.heap.size w w'
section
variable {W0 w : World} {t bx : Nat} {nodes : Int} {nm : ByteArray} {most : Int} {U V : Nat → Prop} {s s2 : RS} {an : Option Addr} {cn : Nat} {ag : Option Addr} {cg m : Nat}
theorem LRa.told (h : LRa W0 w t bx nodes nm most U V s s2 an cn ag cg) (ok : s2.Ok m) (hm : m ≤ 4900) {v2 : World} (b : Below w.heap.size w v2) {a2 : Option Addr} {LL : List (List Int)} (c2 : Nat) (n e : Int) (hR : RwsD v2 (fun q => (q < W0.heap.size ∨ w.heap.size ≤ q) ∧ q < v2.heap.size) a2 LL) (hl : LL.length ≤ 20) (hn : n ≤ 9223372036854775807) :
    Calls Try.prog 19 #[docV nodes s2.to s2.at_ s2.gone (.slice an s2.LG.length cn) (.slice ag s2.LG.length cg), .slice a2 LL.length c2, .int .i64 n, .int .i64 e] v2 (fun r w' => DocS w V nodes (s2.told nodes LL n e) r w') := by
  have D2 := h.dc.next b
  have hb := b.size
  have D3 : DocA v2 (fun q => V q ∨ (w.heap.size ≤ q ∧ q < v2.heap.size)) an ag s2.LG := ⟨D2.n.mono (fun _ hq => .inl hq), D2.g.mono (fun _ hq => .inl hq)⟩
  have R3 : RwsD v2 (fun q => V q ∨ (w.heap.size ≤ q ∧ q < v2.heap.size)) a2 LL := hR.mono (fun q hq => by
    rcases hq.1 with h1 | h1
    · exact .inl (h.va q h1)
    · exact .inr ⟨h1, hq.2⟩)
  refine (rtold_all c2 n e D3 ok hm (fun q hq => ?_) R3 hl hn).mono ?_
  · rcases hq with h1 | h1
    · have := (h.vl q h1).1; omega
    · exact h1.2
  · rintro r w' ⟨an', cn', ag', cg', rfl, n', g', b'⟩
    have up : ∀ q, ((V q ∨ (w.heap.size ≤ q ∧ q < v2.heap.size)) ∨ v2.heap.size ≤ q) → (V q ∨ w.heap.size ≤ q) := fun q hq => by
      rcases hq with (h1 | h1) | h1
      · exact .inl h1
      · exact .inr h1.1
      · right; omega
    exact ⟨an', cn', ag', cg', rfl, n'.mono up, g'.mono up, b.trans (b'.mono hb)⟩
/-- the answer is stored -/
theorem LRa.stored {s' : RS} {v3 : World} {an' : Option Addr} {cn' : Nat} {ag' : Option Addr} {cg' : Nat} (h : LRa W0 w t bx nodes nm most U V s s2 an cn ag cg) (b : Below w.heap.size w v3)
    (n' : NumsD v3 (fun q => V q ∨ w.heap.size ≤ q) an' (s'.LG.map (·.1))) (g' : RwsD v3 (fun q => V q ∨ w.heap.size ≤ q) ag' (s'.LG.map (·.2))) :
    ∃ w4, w4 = ((((((v3.setCell ⟨bx, 0, none⟩ (.int .i64 nodes)).setCell ⟨bx, 1, none⟩ (.int .i64 s'.to)).setCell ⟨bx, 2, none⟩ (.int .i64 s'.at_)).setCell ⟨bx, 3, none⟩ (.int .i64 s'.gone)).setCell ⟨bx, 4, none⟩ (.slice an' s'.LG.length cn')).setCell ⟨bx, 5, none⟩ (.slice ag' s'.LG.length cg')) ∧
      LR W0 t bx nodes nm most s s' w4 ∧ Fr v3 w4 (fun q => q = bx) := by
  have K := h.bk.below b
  unfold boxD at K
  have f : Fr v3 ((((((v3.setCell ⟨bx, 0, none⟩ (.int .i64 nodes)).setCell ⟨bx, 1, none⟩ (.int .i64 s'.to)).setCell ⟨bx, 2, none⟩ (.int .i64 s'.at_)).setCell ⟨bx, 3, none⟩ (.int .i64 s'.gone)).setCell ⟨bx, 4, none⟩ (.slice an' s'.LG.length cn')).setCell ⟨bx, 5, none⟩ (.slice ag' s'.LG.length cg')) (fun q => q = bx) :=
    (((((((Fr.refl v3 (fun q => q = bx)).set bx 0 _ (.inl rfl)).set bx 1 _ (.inl rfl)).set bx 2 _ (.inl rfl)).set bx 3 _ (.inl rfl)).set bx 4 _ (.inl rfl)).set bx 5 _ (.inl rfl))
  have k0 := K.set 0 (.int .i64 nodes)
  have k1 := k0.set 1 (.int .i64 s'.to)
  have k2 := k1.set 2 (.int .i64 s'.at_)
  have k3 := k2.set 3 (.int .i64 s'.gone)
  have k4 := k3.set 4 (.slice an' s'.LG.length cn')
  have k5 := k4.set 5 (.slice ag' s'.LG.length cg')
  exact ⟨_, rfl, h.doc b n' g' f k5, f⟩
end
/-- the program's reader is told -/
theorem LR.told {W0 w : World} {t bx : Nat} {nodes : Int} {nm : ByteArray} {most : Int} {s s2 : RS} {m : Nat} {a : Option Addr} {LL : List (List Int)} (c : Nat) (n e : Int) (h : LR W0 t bx nodes nm most s s2 w) (ok : s.Ok m) (hm : m ≤ 4900) (hN : nodes ≤ 7)
    (RW : Bk.Rws W0 a LL) (hS : Small LL) (hl : LL.length ≤ 20) (hn : n ≤ 9223372036854775807) :
    Calls Try.prog 21 #[.pointer (some ⟨t, 0, none⟩), .slice a LL.length c, .int .i64 n, .int .i64 e] w fun r w' => r = .returned (.tuple #[]) ∧ LR W0 t bx nodes nm most (s.told nodes LL n e) s2 w' := by
  obtain ⟨U, V, an, cn, ag, cg, h⟩ := h
  refine (told_all c n e h.rd ok hm hN (fun w' f => ?_) hS hl hn).mono fun r w' ⟨he, k⟩ => ⟨he, h.reader k⟩
  have b : Below W0.heap.size W0 w' := h.b.trans (f.below h.ul h.b.size)
  exact RW.next b
theorem LR.late {W0 w : World} {t bx : Nat} {nodes : Int} {nm : ByteArray} {most : Int} {s s2 : RS} {m : Nat} (h : LR W0 t bx nodes nm most s s2 w) (ok : s.Ok m) (hN : nodes ≤ 7) :
    Calls Try.prog 22 #[.pointer (some ⟨t, 0, none⟩)] w fun r w' => r = .returned (.tuple #[]) ∧ LR W0 t bx nodes nm most ⟨nextN s.to nodes, s.at_, s.gone, s.LG⟩ s2 w' := by
  obtain ⟨U, V, an, cn, ag, cg, h⟩ := h
  have h3 := ok.to
  exact (rlate_ch h.rd ⟨h3.1, by omega⟩ (by omega)).mono fun r w' ⟨he, k⟩ => ⟨he, h.reader k⟩
theorem told_late (nodes : Int) (s : RS) : s.told nodes [] (-1) 1 = ⟨nextN s.to nodes, s.at_, s.gone, s.LG⟩ := by
  unfold RS.told
  rw [if_neg (by omega), if_neg (by omega)]
end Go.Proofs.Ytbghjcfepjbppaa
/-
  FOR THE ROWS: a value that came in.
-/
namespace Go.Proofs.Ytbghjcfepjbppaa
open Go.Joins Go.ChangeShapes Go.WideShapes Go.RowKit Go.Deep
theorem trod_float {H : Type} {enc : TypeId × Value → H} {P : Program} {w : World} {base : Nat} {spare : Nat → Bool} {held : Bool} {fuel : Nat} {t : TypeId} {cs : List Value} {x : DataW H × List MemPlace} {k : FloatKind} (ht : P.underlying t = some (.float k)) (h : DataW.trod enc P w base spare held fuel t cs = some x) :
    ∃ n, cs = [.float k n] ∧ x = (.lit (.float k n), []) ∧ (Lit.float k n).wf = true := by
  cases fuel with
  | zero => simp [DataW.trod] at h
  | succ n =>
    unfold DataW.trod at h
    rw [ht] at h
    split at h <;> simp_all
theorem wf_f64 {n : Nat} (h : (Lit.float .f64 n).wf = true) : n < 18446744073709551616 := by
  have h2 : n < 2 ^ 64 := of_decide_eq_true h
  omega
theorem wf_i64 {n : Int} (h : (Lit.int .i64 n).wf = true) : -9223372036854775808 ≤ n ∧ n ≤ 9223372036854775807 := by
  have := bounds_i64 h
  exact ⟨by omega, by omega⟩
theorem one47 : oneCellFields Try.prog #[{ name := "Kind", type := 3, offset := 0, embedded := false, tag := "", pkgPath := "", byteOffset := 0 }, { name := "N", type := 3, offset := 1, embedded := false, tag := "", pkgPath := "", byteOffset := 8 }, { name := "F", type := 101, offset := 2, embedded := false, tag := "", pkgPath := "", byteOffset := 16 }, { name := "S", type := 9, offset := 3, embedded := false, tag := "", pkgPath := "", byteOffset := 24 }] = true := by kernel_rfl
theorem ce47 : Try.prog.cellsOf 103 = 4 := by kernel_rfl
set_option maxRecDepth 100000 in
theorem open_val {H : Type} {enc : TypeId × Value → H} {W : World} {base : Nat} {v : Value} {d : DataW H} {p : List MemPlace} (hv : Value.okWide Try.prog W .any base 103 v) (h : DataW.Trod enc Try.prog W 0 (fun _ => true) true 103 v d p) : ∃ a : Val, v = a.val ∧ a.Wf := by
  obtain ⟨v0, v1, v2, v3, y0, y1, y2, y3, n, rfl, _, _, h0, h1, h2, h3⟩ := open_agg4 Try.underlying103 one47 ce47 hv h
  obtain ⟨k0, e0, _, w0⟩ := DataW.trod_int Try.underlying3 h0
  obtain ⟨k1, e1, _, w1⟩ := DataW.trod_int Try.underlying3 h1
  obtain ⟨f2, e2, _, w2⟩ := trod_float Try.underlying101 h2
  obtain ⟨s3, e3, _, w3⟩ := DataW.trod_string Try.underlying9 h3
  simp only [List.cons.injEq, and_true] at e0 e1 e2 e3
  subst e0 e1 e2 e3
  exact ⟨⟨k0, k1, f2, s3⟩, rfl, wf_i64 w0, (wf_i64 w1).1, (wf_i64 w1).2, wf_f64 w2⟩
end Go.Proofs.Ytbghjcfepjbppaa
