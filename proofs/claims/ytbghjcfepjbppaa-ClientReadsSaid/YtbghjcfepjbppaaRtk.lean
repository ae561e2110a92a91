/-
  A READER TAKES MATCHES: take.
-/
import Derived.Test.YtbghjcfepjbppaaRdm
import Derived.Deep.LoopGhost
import Derived.LoopTactic
namespace Go.Proofs.Ytbghjcfepjbppaa
open Go.RowKit
theorem info72 : (Try.prog.info? 72).map (fun i => (i.zero, i.size, i.bytes)) = some (some (.agg #[.int .i64 0, .slice none 0 0]), 2, 32) := by kernel_rfl
theorem one_got (n : Int) (a : Option Addr) (m c : Nat) : ∀ u ∈ ([.int .i64 n, .slice a m c] : List Value), u.oneCell' = true := by
  intro u hu
  simp only [List.mem_cons, List.not_mem_nil, or_false] at hu
  rcases hu with rfl | rfl <;> rfl
theorem own_slice {w : World} {B t s n : Nat} {v : Value} {xs : List Value} (h : w.ownsRow B t s v n xs) : ∃ a c, v = .slice a n c := by
  rcases h.2 with ⟨rfl, e⟩ | ⟨g, cap, cur, rfl, _⟩
  · exact ⟨none, 0, by rw [e]⟩
  · exact ⟨_, _, rfl⟩
/-- lists that are short enough to be copied -/
def Small (LL : List (List Int)) : Prop := ∀ xs ∈ LL, xs.length ≤ 17592186043904
set_option maxHeartbeats 4000000 in
set_option maxRecDepth 100000 in
theorem take_any {w : World} {U : Nat → Prop} {t : Nat} {nodes to : Int} {nm : ByteArray} {most at_ gone : Int} {LG : List (Int × List Int)} {a : Option Addr} {LL : List (List Int)} (c : Nat)
    (h : RdM w U t nodes to nm most at_ gone LG) (RW : ∀ w', Fr w w' U → Bk.Rws w' a LL) (hS : Small LL) (hl : LL.length ≤ 20) (hg : LG.length ≤ 5000) (ha : 0 ≤ at_ ∧ at_ + (LL.length : Int) ≤ 9223372036854775807) :
    Calls Try.prog 55 #[.pointer (some ⟨t, 0, none⟩), .slice a LL.length c] w fun e w' => e = .returned (.tuple #[]) ∧ Rch w U t nodes to nm most (at_ + (LL.length : Int)) gone (LG ++ numb at_ LL) w' := by
  obtain ⟨i72, hi, hz0, hz1, hz2⟩ := info_parts info72
  have R0 : Hid (Rch w U t nodes to nm most at_ gone LG w) := Lib.hid ⟨U, h, Fr.refl _ _, fun q hq => .inl hq⟩
  have RWh := Lib.hid RW
  have Sh := Lib.hid hS
  obtain ⟨n, hn⟩ : ∃ n, n = LL.length := ⟨_, rfl⟩
  have HN := Lib.hid hn
  rw [← hn] at hl ha ⊢
  obtain ⟨ha0, ha1⟩ := ha
  clear h RW hS hn
  go_enter Try.func55, Try.ntmps55
  go_wp2_with fail
  go_loopw [8] (fun i wr => ∃ (j : Nat), i = .int .i64 j ∧ j ≤ n ∧ Hid (Rch w U t nodes to nm most (at_ + (j : Int)) gone (LG ++ numb at_ (LL.take j)) wr))
    (fun i wr => n - (intOf i).toNat)
  case atStart => exact ⟨0, rfl, Nat.zero_le _, by simpa [numb] using R0⟩
  case round =>
    obtain ⟨j, rfl, hj, hR⟩ := hrel
    clear R0
    by_cases hjn : j < n
    · have jI : (j : Int) < (n : Int) := by omega
      have jB := decide_eq_true jI
      have hjL : j < LL.length := by rw [← HN.out]; exact hjn
      obtain ⟨U1, ⟨gv, cs, A⟩, f1, u1⟩ := hR.out
      obtain ⟨ga, go_, qa, cq, rfl, hga, ck, nn⟩ := RWh.out wr f1 j hjL
      obtain ⟨ua, uc, rfl⟩ := own_slice A.own
      have hsm := Sh.out _ (List.getElem_mem hjL)
      obtain ⟨x, hx⟩ : ∃ x, x = LL[j]'hjL := ⟨_, rfl⟩
      rw [← hx] at hsm nn ck
      have NT : numb at_ (LL.take (j + 1)) = numb at_ (LL.take j) ++ [(at_ + (j : Int), x)] := by rw [hx]; exact numb_take hjL
      obtain ⟨W1, hW1, X1, B1⟩ : ∃ W1, W1 = wr.alloc (.cells #[.slice qa x.length cq] 70) ∧ Blk W1 wr.heap.size 70 #[.slice qa x.length cq] ∧ Below wr.heap.size wr W1 := ⟨_, rfl, Blk.new _ _ _, (Below.refl _ _).alloc (Nat.le_refl _) _⟩
      have A1 := A.fr (P := fun _ => False) (Fr.of_below B1 _) (fun _ hf => hf.elim)
      have GT := Lib.hid (got_any (w := W1.drew) (at_ + (j : Int)) cq (nn.next B1.drew) hsm)
      have PU := Lib.hid (fun (v w4 : World) (a' : Option Addr) (c' g cap : Nat) (o : Obj) bv hn ha ho hg hat => A1.push (v := v) (w4 := w4) (a' := a') (c' := c') (g := g) (cap := cap) (xs := x) o bv hn ha ho hg hat rfl)
      have OW := Lib.hid (fun (v : World) (bv : Below W1.heap.size W1 v) => Fr.own A1.own (Fr.of_below bv (fun _ => False)) (fun _ _ h => h))
      have TB := Lib.hid A1.blk
      have X1h := Lib.hid X1
      have W1h := Lib.hid hW1
      have htl : t < W1.heap.size := A1.blk.lt
      have hgl : LG.length + j ≤ 5020 := by omega
      have ln : (LG ++ numb at_ (LL.take j)).length = LG.length + j := by rw [List.length_append, numb_len, List.length_take, Nat.min_eq_left (Nat.le_of_lt hjL)]
      have FIN := Lib.hid (fun (w9 : World) (at' : Int) (e : at' = at_ + (j : Int) + 1) (k : Rch W1 U1 t nodes to nm most at' gone (LG ++ numb at_ (LL.take j) ++ [(at_ + (j : Int), x)]) w9) => show Rch w U t nodes to nm most (at_ + ((j + 1 : Nat) : Int)) gone (LG ++ numb at_ (LL.take (j + 1))) w9 from by
        rw [NT, ← List.append_assoc]
        rw [show at_ + ((j + 1 : Nat) : Int) = at' by omega]
        obtain ⟨U2, k1, k2, k3⟩ := k
        have fB : Fr wr W1 (fun _ => False) := Fr.of_below B1 _
        refine ⟨U2, k1, (f1.trans (fB.trans k2 (fun _ _ h => h.elim) (fun _ _ h => h) : Fr wr w9 U1) (fun _ _ h => h) (fun q hq hh => ?_)), fun q hq => ?_⟩
        · rcases u1 q hh with h | h
          · exact h
          · omega
        · rcases k3 q hq with h | h
          · exact u1 q h
          · exact .inr (Nat.le_trans f1.size (Nat.le_trans fB.size h)))
      have hwr : wrap64 (at_ + (j : Int) + 1) = at_ + (j : Int) + 1 := by unfold wrap64; omega
      clear hR A1 A nn hsm X1 B1 hW1 f1 u1 NT hx
      rw [ln] at PU OW TB
      clear ln
      unfold GotR at GT
      have HM := Lib.hid (rfl : x.length = x.length)
      generalize x.length = m at *
      have t6 : W1.drew.cell? ⟨t, 6, none⟩ = some (.slice ua (LG.length + j) uc) := TB.out.cell 6
      have t4 : W1.drew.cell? ⟨t, 4, none⟩ = some (.int .i64 (at_ + (j : Int))) := TB.out.cell 4
      have x0 : W1.drew.cell? ⟨wr.heap.size, 0, none⟩ = some (.slice qa m cq) := X1h.out.cell 0
      have hlI : (LG.length : Int) + (j : Int) ≤ 5020 := by omega
      generalize LG.length + j = r at *
      go_wp2_with fail
      rw [← W1h.out]
      go_region_law
        (first
          | (refine step_append_lies _ rfl (.tmp 16) (.tmp 23) 67 rfl 0 72 i72 (.agg #[.int .i64 0, .slice none 0 0]) 2 32 Try.underlying67 hi hz0 hz1 hz2 rfl (by decide) (.slice ua r uc) r cs rfl (World.ownsRow.alloc OW2.out _) ⟨v2.heap.size, 0, none⟩ 1 1 [.int .i64 (at_ + (j : Int)), .slice a2 m c2] rfl rfl (World.news_of_block (cs := #[.int .i64 (at_ + (j : Int)), .slice a2 m c2]) (heap_alloc_new v2 _)) (one_got _ a2 m c2) (by decide) (by unfold maxLen; omega) (by omega) (Nat.zero_le _) _ rfl ?_; intro g4 cap4 w4 ho4 hg4 hat4 _; obtain ⟨q1, q2, q3, q4, q5⟩ := PU.out v2 w4 a2 c2 g4 cap4 _ BV.out nn2.out hp2.out ho4 hg4 hat4; have K4h := Lib.hid (q5 (at_ + (j : Int) + 1)); clear q5 ho4 hg4 hat4)
          | (go_simp; go_at_call 56; refine GT.out.mono ?_; rintro r9 v2 ⟨a2, c2, rfl, nn2, hp2, b2⟩; have BV : Hid (Below W1.heap.size W1 v2) := Lib.hid ((Below.refl W1.heap.size W1).drew.trans b2); have OW2 := Lib.hid (OW.out v2 BV.out); have nn2 := Lib.hid nn2; have hp2 : Hid (∀ ad, a2 = some ad → W1.heap.size ≤ ad.block ∧ ad.block < v2.heap.size) := Lib.hid hp2; have c5 : v2.cell? ⟨t, 6, none⟩ = some (.slice ua r uc) := (TB.out.below BV.out).cell 6; have hTv : (⟨t, 6, none⟩ : Addr).block < v2.heap.size := (TB.out.below BV.out).lt; have c6 : ∀ o, (v2.alloc o).cell? ⟨t, 6, none⟩ = some (.slice ua r uc) := fun o => (World.cell?_alloc_lt _ _ _ hTv).trans c5; clear b2))
      all_goals (
        go_wp2_with fail
        go_roundw
        case rel => exact ⟨j + 1, by go_num, by omega, Lib.hid (FIN.out _ _ rfl K4h.out)⟩
        case measure => simp [intOf]; omega)
    · obtain rfl : j = n := by omega
      have jI : ¬ (j : Int) < (j : Int) := by omega
      have R9 : Hid (Rch w U t nodes to nm most (at_ + (j : Int)) gone (LG ++ numb at_ LL) wr) := Lib.hid (by
        have := hR.out
        rw [List.take_of_length_le (Nat.le_of_eq HN.out.symm)] at this
        exact this)
      clear hR
      go_wp2_with fail
      go_end0
      exact ⟨rfl, R9.out⟩
end Go.Proofs.Ytbghjcfepjbppaa
