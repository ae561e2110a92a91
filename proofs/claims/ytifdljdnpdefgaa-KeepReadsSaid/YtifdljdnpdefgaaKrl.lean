/-
  THE LAW KeepReads AS A WALK.
-/
import Derived.Test.YtifdljdnpdefgaaDrd
namespace Go.Proofs.Ytifdljdnpdefgaa
open Go.RowKit
theorem S9.of {W w' : World} {Y U t1 t2 : Nat} {v0 v1 v2 v3 u3 : Value} (K : Blk W Y t1 #[v0, v1, v2, v3]) (K2 : Blk W U t2 #[v0, v1, v2, u3]) (h : Below W.heap.size W w') : S8 W Y U v0 v1 v2 v3 u3 w' :=
  have k := K.over h
  have k2 := K2.over h
  ⟨k.cell 0, k.cell 1, k.cell 2, k.cell 3, k2.cell 0, k2.cell 1, k2.cell 2, k2.cell 3, h⟩
theorem rd_bounds (s : ByteArray) : (rdTr s).2.2.2.length ≤ 1000 ∧ ∀ r ∈ (rdTr s).2.2.2, r.P.length ≤ 140737488355328 := by
  cases h : pRead s with
  | none =>
    rw [(rd_none h).1]
    exact ⟨Nat.zero_le _, fun r hr => by simp at hr⟩
  | some x =>
    have h2 := rd_some x h
    rw [h2.1]
    have h3 := (keep_parts (read_write s x h).1).2.2.2.1
    exact ⟨by omega, fun r hr => (h2.2.2.2.1 r hr).1⟩
set_option maxHeartbeats 16000000 in
set_option maxRecDepth 100000 in
theorem reads_law (s : ByteArray) (w : World) : Calls Try.prog 4 #[.string s] w fun e w' => e = .returned (.bool true) ∧ Below w.heap.size w w' := by
  by_cases hs : s.size ≤ 20000
  rotate_left
  · have hs1 : (20000 : Int) < (s.size : Int) := by omega
    go_enter Try.func4, Try.ntmps4
    go_wp2_with fail
    refine (awake_any _).mono ?_
    rintro e w2 ⟨rfl, b2⟩
    have B2 := Lib.hid b2
    clear b2
    go_wp2_with fail
    go_ret
    exact ⟨rfl, B2.out⟩
  have hs1 : ¬ (20000 : Int) < (s.size : Int) := by omega
  have RD := Lib.hid (fun W => read_any s (by omega) W)
  have RR := Lib.hid (fun W => rread_any s (by omega) W)
  unfold Readd trackV at RD RR
  obtain ⟨hl, hP⟩ := rd_bounds s
  generalize rdE s = E at *
  generalize rdTr s = x at *
  obtain ⟨c, t, l, L⟩ := x
  simp only at RD RR hl hP
  have C10 := Lib.hid (fun a' cp' W (h : Rns W a' L) => show Calls Try.prog 10 #[.agg #[.int .i64 c, .int .i64 t, .int .i64 l, .slice a' L.length cp']] W (fun e w' => ∃ p cp, e = .returned (.agg #[.int .i64 c, .int .i64 t, .int .i64 l, .slice p L.length cp]) ∧ Rns w' p L ∧ Below W.heap.size W w') from cnv_any c t l a' cp' L W hl h)
  have C13 := Lib.hid (fun a' cp' a2 cp2 W (h : Rns W a' L) (h2 : Rns W a2 L) => show Calls Try.prog 13 #[.agg #[.int .i64 c, .int .i64 t, .int .i64 l, .slice a' L.length cp'], .agg #[.int .i64 c, .int .i64 t, .int .i64 l, .slice a2 L.length cp2]] W (fun e w' => e = .returned (.bool true) ∧ Below W.heap.size W w') from same_any c t l L a' a2 cp' cp2 W h h2 (by omega) hP)
  clear hl hP
  generalize L.length = m at *
  go_enter Try.func4, Try.ntmps4
  go_wp2_with fail
  refine (RD.out _).mono ?_
  rintro e w1 ⟨a1, cp1, rfl, r1, b1⟩
  have q1 := (Below.refl w1.heap.size w1).alloc (Nat.le_refl _) (.cells #[.int .i64 c, .int .i64 t, .int .i64 l, .slice a1 m cp1] 24)
  have B1 := Lib.hid (b1.trans (q1.mono b1.size))
  have R1 := Lib.hid (r1.below q1)
  have K1 := Lib.hid (Blk.new w1 24 #[.int .i64 c, .int .i64 t, .int .i64 l, .slice a1 m cp1])
  clear b1 r1 q1
  go_wp2_with fail
  generalize w1.alloc (.cells #[.int .i64 c, .int .i64 t, .int .i64 l, .slice a1 m cp1] 24) = W1 at *
  generalize w1.heap.size = Y at *
  refine (RR.out _).mono ?_
  rintro e w2 ⟨a2, cp2, rfl, r2, b2⟩
  have q2 := (Below.refl w2.heap.size w2).alloc (Nat.le_refl _) (.cells #[.int .i64 c, .int .i64 t, .int .i64 l, .slice a2 m cp2] 34)
  have B2 := Lib.hid ((B1.out.trans (b2.mono B1.out.size)).trans (q2.mono (Nat.le_trans B1.out.size b2.size)))
  have RT := Lib.hid ((R1.out.below b2).below q2)
  have KT := Lib.hid ((K1.out.over b2).over q2)
  have RU := Lib.hid (r2.below q2)
  have KU := Lib.hid (Blk.new w2 34 #[.int .i64 c, .int .i64 t, .int .i64 l, .slice a2 m cp2])
  clear b2 r2 q2 K1 R1 B1
  go_wp2_with fail
  generalize w2.alloc (.cells #[.int .i64 c, .int .i64 t, .int .i64 l, .slice a2 m cp2] 34) = W at *
  generalize w2.heap.size = U at *
  have S1 := S9.of KT.out KU.out ((Below.refl W.heap.size W).drew)
  have CU := Lib.hid (fun X (b : Below W.heap.size W X) => C10.out a1 cp1 X (RT.out.below b))
  have CS := Lib.hid (fun X (b : Below W.heap.size W X) q cq (h : Rns X q L) => C13.out q cq a2 cp2 X h (RU.out.below b))
  go_region_held3 (fun w' => w'.cell? ⟨Y, 0, none⟩ = some (.int .i64 c) ∧ w'.cell? ⟨Y, 1, none⟩ = some (.int .i64 t) ∧ w'.cell? ⟨Y, 2, none⟩ = some (.int .i64 l) ∧ w'.cell? ⟨Y, 3, none⟩ = some (.slice a1 m cp1) ∧ w'.cell? ⟨U, 0, none⟩ = some (.int .i64 c) ∧ w'.cell? ⟨U, 1, none⟩ = some (.int .i64 t) ∧ w'.cell? ⟨U, 2, none⟩ = some (.int .i64 l) ∧ w'.cell? ⟨U, 3, none⟩ = some (.slice a2 m cp2) ∧ Below W.heap.size W w')
    (first | (with_reducible exact S1) | (refine S9.of KT.out KU.out ?_; (repeat (with_reducible first | assumption | exact Below.refl _ _ | refine Below.drew ?_ | refine belowAlloc ?_ _)); done))
    (first
      | (go_at_call 7; refine (awake_any _).mono ?_; rintro e w7 ⟨rfl, b7⟩; have d7 : Below W.heap.size W w7 := belowTrans (by (repeat (with_reducible first | assumption | exact Below.refl _ _ | refine Below.drew ?_ | refine belowAlloc ?_ _))) b7)
      | (go_at_call 10; with_reducible refine (CU.out _ (by (repeat (with_reducible first | assumption | exact Below.refl _ _ | refine Below.drew ?_ | refine belowAlloc ?_ _)))).mono ?_; rintro e w8 ⟨p8, cp8, rfl, r8, b8⟩; have d8 : Below W.heap.size W w8 := belowTrans (by (repeat (with_reducible first | assumption | exact Below.refl _ _ | refine Below.drew ?_ | refine belowAlloc ?_ _))) b8)
      | (go_at_call 13; refine (CS.out _ (by (repeat (with_reducible first | assumption | exact Below.refl _ _ | refine Below.drew ?_ | refine belowAlloc ?_ _))) _ _ (show Rns _ _ L from r8)).mono ?_; rintro e w9 ⟨rfl, b9⟩; have d9 : Below W.heap.size W w9 := belowTrans (by (repeat (with_reducible first | assumption | exact Below.refl _ _ | refine Below.drew ?_ | refine belowAlloc ?_ _))) b9))
  have B9 := Lib.hid (B2.out.trans (d9.mono B2.out.size))
  clear d7 d8 d9 b7 b8 b9 r8 S1 CU CS C10 C13
  go_wp2_with fail
  go_ret
  exact ⟨ret_bool (by simp), B9.out⟩
end Go.Proofs.Ytifdljdnpdefgaa
