/-
  slices.Clone of numbers, however many may be; a match and its number: client.got.
-/
import Derived.Test.YtbghjcfepjbppaaBcl
import Derived.Test.YtbghjcfepjbppaaRd0
namespace Go.Proofs.Ytbghjcfepjbppaa.Bk
open Go.RowKit
set_option maxHeartbeats 4000000 in
set_option maxRecDepth 100000 in
theorem clone_big {w : World} {a : Option Addr} {L : List Int} (c : Nat) (h : Nums w a L) (hl : L.length ≤ 17592186043904) : Calls Try.prog 79 #[.slice a L.length c] w (Cln w L) := by
  obtain ⟨i0, hi, hz0, hz1, hz2⟩ : ∃ i, Try.prog.info? 3 = some i ∧ i.zero = some (.int .i64 0) ∧ i.size = 1 ∧ i.bytes = 8 := by
    have h3 := info3
    cases e : Try.prog.info? 3 with
    | none => rw [e] at h3; cases h3
    | some i => rw [e] at h3; simp only [Option.map_some, Option.some.injEq, Prod.mk.injEq] at h3; exact ⟨i, rfl, h3.1, h3.2.1, h3.2.2⟩
  have q29 : ∀ (w : World) (a : Option Addr) (n c n' c' : Nat), (binOp .eql 55 (.slice a n c) (.slice none n' c')).run Try.prog w = .ok (.bool a.isNone) w := fun w a n c n' c' => Lib.run_eql_slice_nil w _ _ a n c n' c' Try.underlying55
  cases a with
  | none =>
    have hL : L = [] := by
      cases L with
      | nil => rfl
      | cons x r => obtain ⟨g, o, e, _⟩ := h 0 (by simp); cases e
    subst hL
    have FIN := Lib.hid (show Cln w [] (.returned (.slice none 0 0)) w from ⟨_, rfl, World.ownsRow_nil _ _ _ _, Below.refl _ _⟩)
    generalize Cln w [] = Q at *
    clear h
    go_enter Try.func79, Try.ntmps79
    go_wp2_with fail
    exact FIN.out
  | some ad =>
    obtain ⟨W1, hW1⟩ : ∃ W1, W1 = w.alloc (.cells #[] 3) := ⟨_, rfl⟩
    have O1 : W1.ownsRow w.heap.size 3 1 (.slice (some ⟨w.heap.size, 0, none⟩) 0 0) 0 [] := by rw [hW1]; exact World.ownsRow_made w #[] 0 (Nat.le_refl _) (Nat.zero_le _) rfl
    have b1 : Below w.heap.size w W1 := by rw [hW1]; exact (Below.refl _ w).alloc (Nat.le_refl _) _
    have G1 := h.next b1
    have N1 : ∀ j u, (L.map (Value.int .i64))[j]? = some u → W1.cell? (ad.add j) = some u := by
      intro j u hj
      rw [List.getElem?_map] at hj
      obtain ⟨x, hx, rfl⟩ := Option.map_eq_some_iff.1 hj
      obtain ⟨hjl, rfl⟩ := List.getElem?_eq_some_iff.1 hx
      obtain ⟨g, o, e, hg, ck⟩ := G1 j hjl
      cases e
      rw [show (⟨g, o, none⟩ : Addr).add j = ⟨g, o + j, none⟩ by unfold Addr.add; split <;> simp_all]
      exact ck
    have FIN : Hid (∀ v' w1, w1.ownsRow w.heap.size 3 1 v' (0 + L.length) ([] ++ L.map (Value.int .i64)) → W1.grownBy w1 (Value.slice (some ⟨w.heap.size, 0, none⟩) 0 0).ownBlock → Cln w L (.returned v') w1) := Lib.hid fun v' w1 ho hg => by
      rw [Nat.zero_add, List.nil_append] at ho
      exact ⟨v', rfl, ho, b1.trans ⟨hg.os, hg.tape, hg.output, hg.size, fun q hq => hg.block q (Nat.lt_of_lt_of_le hq b1.size) (fun e => absurd (show q = w.heap.size by simpa [Value.ownBlock] using e) (Nat.ne_of_lt hq))⟩⟩
    have hz : W1.heap.size = w.heap.size + 1 := by rw [hW1]; simp
    have HN := Lib.hid N1
    have HO := Lib.hid O1
    have HW := Lib.hid hW1
    have HL : Hid ((L.map (Value.int .i64)).length = L.length * 1) := Lib.hid (by simp)
    have H1 : Hid (∀ u ∈ L.map (Value.int .i64), u.oneCell' = true) := Lib.hid (fun u hu => by obtain ⟨x, _, rfl⟩ := List.mem_map.1 hu; rfl)
    have hl2 : (L.length : Int) ≤ 17592186043904 := by omega
    clear h O1 b1 G1 N1 hW1
    generalize L.map (Value.int .i64) = cl at *
    generalize L.length = n at *
    generalize Cln w L = Q at *
    go_enter Try.func79, Try.ntmps79
    go_wp2_with (at_builtin; rw [← HW.out]; refine wpList_append_own _ rfl _ _ 55 rfl w.heap.size 3 i0 _ 1 8 Try.underlying55 hi hz0 hz1 hz2 rfl (by decide) _ 0 [] rfl HO.out ad n c cl rfl HL.out HN.out H1.out (by unfold maxLen; omega) (by omega) (by omega) ?_; intro v' w1 ho hg2 _)
    all_goals exact FIN.out v' w1 ho hg2
end Go.Proofs.Ytbghjcfepjbppaa.Bk
namespace Go.Proofs.Ytbghjcfepjbppaa
open Go.RowKit
/-- what client.got answers -/
def GotR (w : World) (n : Int) (xs : List Int) (e : Ending) (w' : World) : Prop :=
  ∃ a' c', e = .returned (.agg #[.int .i64 n, .slice a' xs.length c']) ∧ Bk.Nums w' a' xs ∧ (∀ ad, a' = some ad → w.heap.size ≤ ad.block ∧ ad.block < w'.heap.size) ∧ Below w.heap.size w w'
theorem nums_fr {w w' : World} {a : Option Addr} {xs : List Int} {P : Nat → Prop} (h : Bk.Nums w a xs) (f : Fr w w' P) (hP : ∀ ad, a = some ad → ¬ P ad.block) : Bk.Nums w' a xs := fun i hi => by
  obtain ⟨g, o, e, hl, c⟩ := h i hi
  exact ⟨g, o, e, Nat.lt_of_lt_of_le hl f.size, f.cell hl (hP _ e) c⟩
set_option maxHeartbeats 2000000 in
set_option maxRecDepth 100000 in
theorem got_any {w : World} {a : Option Addr} {xs : List Int} (n : Int) (c : Nat) (h : Bk.Nums w a xs) (hl : xs.length ≤ 17592186043904) : Calls Try.prog 56 #[.int .i64 n, .agg #[.slice a xs.length c]] w (GotR w n xs) := by
  obtain ⟨w1, hw1, K1, Z1, B1, hs1⟩ : ∃ w1, w1 = (w.alloc (.cells #[.slice a xs.length c] 70)).alloc (.cells #[.int .i64 0, .slice none 0 0] 72) ∧ Blk w1 w.heap.size 70 #[.slice a xs.length c] ∧ Blk w1 (w.heap.size + 1) 72 #[.int .i64 0, .slice none 0 0] ∧ Below w.heap.size w w1 ∧ w1.heap.size = w.heap.size + 1 + 1 :=
    ⟨_, rfl, (Blk.new w 70 _).below ((Below.refl _ _).alloc (Nat.le_refl _) _), by have := Blk.new (w.alloc (.cells #[.slice a xs.length c] 70)) 72 #[.int .i64 0, .slice none 0 0]; simpa using this, ((Below.refl w.heap.size w).alloc (Nat.le_refl _) _).alloc (by simp) _, by simp⟩
  have W1 := Lib.hid hw1
  have CL := Lib.hid (Bk.clone_big c (h.next B1) hl)
  have END : Hid (∀ (w2 : World) (v' : Value), Bk.OwnN w2 w1.heap.size v' xs → Below w1.heap.size w1 w2 → ∃ a' c', v' = .slice a' xs.length c' ∧ w2.cell? ⟨w.heap.size + 1, 0, none⟩ = some (.int .i64 0) ∧ w2.cell? ⟨w.heap.size + 1, 1, none⟩ = some (.slice none 0 0) ∧ (∀ i, w2.frozen? ⟨w.heap.size + 1, i, none⟩ = false) ∧
      GotR w n xs (.returned (.agg #[.int .i64 n, .slice a' xs.length c'])) ((w2.setCell ⟨w.heap.size + 1, 0, none⟩ (.int .i64 n)).setCell ⟨w.heap.size + 1, 1, none⟩ (.slice a' xs.length c'))) := Lib.hid (by
    intro w2 v' o b2
    obtain ⟨a', c', rfl, hn⟩ := Bk.OwnN.nums o
    have Z2 := Z1.below b2
    have hb : ∀ ad, a' = some ad → w1.heap.size ≤ ad.block ∧ ad.block < w2.heap.size := fun ad e => by
      subst e
      exact World.ownsRow.lt o ad.block rfl
    refine ⟨a', c', rfl, Z2.cell 0, Z2.cell 1, Z2.free, a', c', rfl, ?_, ?_, ?_⟩
    · refine nums_fr (nums_fr hn (fr_set w2 (w.heap.size + 1) 0 _) ?_) (fr_set _ (w.heap.size + 1) 1 _) ?_ <;> (intro ad e hh; have := hb ad e; omega)
    · intro ad e
      have := hb ad e
      have h3 : ((w2.setCell ⟨w.heap.size + 1, 0, none⟩ (.int .i64 n)).setCell ⟨w.heap.size + 1, 1, none⟩ (.slice a' xs.length c')).heap.size = w2.heap.size := by simp
      omega
    · exact ((B1.trans (b2.mono (by omega))).setCell (p := ⟨w.heap.size + 1, 0, none⟩) (Nat.le_succ _) _).setCell (p := ⟨w.heap.size + 1, 1, none⟩) (Nat.le_succ _) _)
  have k0 : w1.cell? ⟨w.heap.size, 0, none⟩ = some (.slice a xs.length c) := K1.cell 0
  generalize GotR w n xs = Q at *
  clear K1 Z1 B1 hw1 h hl
  unfold Bk.Cln at CL
  have HL := Lib.hid (rfl : xs.length = xs.length)
  generalize hy : w.heap.size = Y at *
  go_enter Try.func56, Try.ntmps56
  go_wp2_with fail
  rw [← W1.out]
  refine CL.out.mono ?_
  rintro e w2 ⟨v', rfl, o2, b2⟩
  obtain ⟨a', c', rfl, z0, z1, fz, q2⟩ := END.out w2 v' o2 b2
  have q2 := Lib.hid q2
  clear o2 b2 CL END W1 k0
  go_wp2_with fail
  refine bodyPost_ret (by simp [results, Try.results56, go_sem, z0, z1]; try rfl) rfl ?_
  exact q2.out
end Go.Proofs.Ytbghjcfepjbppaa
