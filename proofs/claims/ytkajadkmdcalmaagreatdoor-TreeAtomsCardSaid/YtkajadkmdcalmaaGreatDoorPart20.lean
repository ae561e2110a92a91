/-
  WHAT THE ROWS REST ON, part 20: Tra1.
-/
import Derived.Deep.RegionHeld3
import Derived.Deep.DeepCutAuto
import Derived.Deep.CutRange
import Derived.Deep.CutBlock
import Derived.Test.YtkajadkmdcalmaaGreatDoorPart19
/-
  THE DOCUMENT's Atom 18.
-/
namespace Go.Proofs.YtkajadkmdcalmaaGreatDoor
open Go.RowKit
set_option maxHeartbeats 20000000 in
set_option maxRecDepth 100000 in
theorem ratom_e1 {w : World} (kind k : ByteArray) (e1 : kind.toList.isEmpty = true) (ca : Option Addr) (cc : Nat) (lo hi : Int) (kv : Value) (cs : List Cnd) (a b c : Int) (p : Option Addr) (cp : Nat) (L : List Fld)
    (hcs : Cnds w ca cs) (hl : L.length ≤ 100) (hm : cs.length ≤ 100) (hx : Flds w p L) (hW : ∀ x ∈ L, x.v.Wf) (hC : ∀ c ∈ cs, c.v.Wf) :
    Calls Tryz.prog 18 #[ndV 1 kind ca cs.length cc lo hi kv, evV a b c k (.slice p L.length cp)] w fun e w' => e = .returned (.bool (cs.all (condE L))) ∧ Below w.heap.size w w' := by
  obtain ⟨W, hW1, K0, K1, BW⟩ : ∃ W, W = (w.alloc (.cells #[.int .i64 1, .string kind, .slice ca cs.length cc, .int .i64 lo, .int .i64 hi, kv] 51)).alloc (.cells #[.int .i64 a, .int .i64 b, .int .i64 c, .string k, .slice p L.length cp] 55) ∧
      Blk W w.heap.size 51 #[.int .i64 1, .string kind, .slice ca cs.length cc, .int .i64 lo, .int .i64 hi, kv] ∧ Blk W (w.heap.size + 1) 55 #[.int .i64 a, .int .i64 b, .int .i64 c, .string k, .slice p L.length cp] ∧ Below w.heap.size w W := by
    obtain ⟨k0, b0, s0, -⟩ := alloc_blk (Below.refl w.heap.size w) (Nat.le_refl _) #[.int .i64 1, .string kind, .slice ca cs.length cc, .int .i64 lo, .int .i64 hi, kv] 51
    generalize w.alloc (.cells #[.int .i64 1, .string kind, .slice ca cs.length cc, .int .i64 lo, .int .i64 hi, kv] 51) = W0 at *
    obtain ⟨k1, b1, s1, f1⟩ := alloc_blk b0 (by omega) #[.int .i64 a, .int .i64 b, .int .i64 c, .string k, .slice p L.length cp] 55
    rw [s0] at k1
    exact ⟨_, rfl, f1 _ _ _ k0, k1, b1⟩
  have HW := Lib.hid hW1
  have BWh := Lib.hid BW
  have d0 : W.cell? ⟨w.heap.size, 0, none⟩ = some (.int .i64 1) := K0.cell 0
  have d1 : W.cell? ⟨w.heap.size, 1, none⟩ = some (.string kind) := K0.cell 1
  have d3 : W.cell? ⟨w.heap.size + 1, 3, none⟩ = some (.string k) := K1.cell 3
  have HZ : w.heap.size + 1 < W.heap.size := K1.lt
  have EV := Lib.hid (fun (w' : World) (h : Below W.heap.size W w') => K1.below h)
  have NV := Lib.hid (fun (w' : World) (h : Below W.heap.size W w') => K0.below h)
  have CS := Lib.hid (fun (w' : World) (h : Below w.heap.size w w') => hcs.below h)
  have GT := Lib.hid (fun (w' : World) (h : Below w.heap.size w w') s => rget_any a b c k s p cp L w' hl (hx.below h))
  have FW := Lib.hid (findF_wf hW)
  have HC := Lib.hid hC
  generalize hmm : cs.length = m at *
  have HM := Lib.hid hmm
  clear hW1 K0 K1 BW hcs hx hW hC hmm
  unfold ndV evV
  unfold evV at GT
  generalize hY : w.heap.size = Y at *
  go_enter Tryz.func18, Tryz.ntmps18
  go_wp2_with fail
  rw [← HW.out]
  clear d0 d1 d3
  go_loopw [5] (fun i wr => ∃ j : Nat, i = .int .i64 j ∧ j ≤ m ∧ Hid (Below W.heap.size W wr) ∧ Hid ((cs.take j).all (condE L) = true)) (fun i wr => m - (intOf i).toNat)
  case atStart => exact ⟨0, rfl, Nat.zero_le _, Lib.hid (Below.refl _ _), Lib.hid rfl⟩
  case round =>
    obtain ⟨j, rfl, hj, hB, hA⟩ := hrel
    have hBw : Below Y w wr := BWh.out.trans (hB.out.mono (by omega))
    have hyr : W.heap.size ≤ wr.heap.size := hB.out.size
    have d2 : wr.cell? ⟨Y, 2, none⟩ = some (.slice ca m cc) := (NV.out wr hB.out).cell 2
    by_cases hjm : j < m
    · have jI : (j : Int) < (m : Int) := by omega
      have jJ := decide_eq_true jI
      have hjL : j < cs.length := by rw [HM.out]; exact hjm
      have HBW := Lib.hid hBw
      obtain ⟨g0, o, rfl, hg, x0, x1, x2, x3, x4, x5⟩ := CS.out wr hBw j hjL
      have E1 := EV.out wr hB.out
      have AT := Lib.hid (all_take hjL hA.out)
      have AF := Lib.hid (fun h => all_false (f := condE L) hjL h)
      have CW := Lib.hid (HC.out _ (List.getElem_mem hjL))
      generalize hcj : cs[j] = cj at *
      have SK : Hid (∀ w', Below wr.heap.size wr w' → (fun (w' : World) => w'.cell? ⟨Y, 2, none⟩ = some (.slice (some ⟨g0, o, none⟩) m cc) ∧ w'.cell? ⟨Y + 1, 0, none⟩ = some (.int .i64 a) ∧ w'.cell? ⟨Y + 1, 1, none⟩ = some (.int .i64 b) ∧ w'.cell? ⟨Y + 1, 2, none⟩ = some (.int .i64 c) ∧ w'.cell? ⟨Y + 1, 3, none⟩ = some (.string k) ∧ w'.cell? ⟨Y + 1, 4, none⟩ = some (.slice p L.length cp) ∧ w'.cell? ⟨g0, o + j * 6, none⟩ = some (.string cj.nm)) w') := Lib.hid fun w' h6 => by
        have E2 := E1.below h6
        have hb2 : Below W.heap.size W w' := hB.out.trans (h6.mono hyr)
        exact ⟨(NV.out w' hb2).cell 2, E2.cell 0, E2.cell 1, E2.cell 2, E2.cell 3, E2.cell 4, by rw [h6.cell (p := ⟨g0, _, none⟩) hg]; exact x0⟩
      have SK5 : Hid (∀ w', Below wr.heap.size wr w' → w'.cell? ⟨g0, o + j * 6 + 1, none⟩ = some (.int .i64 cj.op) ∧ w'.cell? ⟨g0, o + j * 6 + 2, none⟩ = some (.int .i64 cj.v.k) ∧ w'.cell? ⟨g0, o + j * 6 + 3, none⟩ = some (.int .i64 cj.v.n) ∧ w'.cell? ⟨g0, o + j * 6 + 4, none⟩ = some (.float .f64 cj.v.f) ∧ w'.cell? ⟨g0, o + j * 6 + 5, none⟩ = some (.string cj.v.s)) := Lib.hid fun w' h6 => by
        have q : ∀ i, w'.cell? ⟨g0, i, none⟩ = wr.cell? ⟨g0, i, none⟩ := fun i => h6.cell (p := ⟨g0, i, none⟩) hg
        exact ⟨(q _).trans x1, (q _).trans x2, (q _).trans x3, (q _).trans x4, (q _).trans x5⟩
      have GT2 := Lib.hid (fun (w' : World) (h : Below wr.heap.size wr w') => GT.out w' (HBW.out.trans (h.mono (by omega))) cj.nm)
      have F3 := Lib.hid (FW.out cj.nm)
      have CE : Hid (condE L cj = ((findF L cj.nm).isSome && opS cj.op (stV (optV (findF L cj.nm)) cj.v))) := Lib.hid rfl
      generalize findF L cj.nm = fo at *
      generalize hvv : optV fo = vv at *
      have hvv := Lib.hid hvv
      obtain ⟨vk, vn, vf, vs⟩ := vv
      unfold Val.val at GT2
      simp only at GT2
      clear E1 hcj x0 x1 x2 x3 x4 x5 d2
      have d2 : wr.cell? ⟨Y, 2, none⟩ = some (.slice (some ⟨g0, o, none⟩) m cc) := (SK.out wr (Below.refl _ _)).1
      go_upto_region 6 with fail
      go_cut [6, 7] from 23 to 59 (fun s6 s7 wx => ∃ X, s6 = .pointer (some ⟨X, 0, none⟩) ∧ s7 = .bool fo.isSome ∧ Hid (Below wr.heap.size wr wx) ∧ Hid (Blk wx X 78 #[.int .i64 vk, .int .i64 vn, .float .f64 vf, .string vs]))
      case first =>
        clear d2
        have B0 := Lib.hid ((Below.refl wr.heap.size wr).drew)
        have SX := SK.out wr.drew B0.out
        refine region_H (fun (w' : World) => w'.cell? ⟨Y, 2, none⟩ = some (.slice (some ⟨g0, o, none⟩) m cc) ∧ w'.cell? ⟨Y + 1, 0, none⟩ = some (.int .i64 a) ∧ w'.cell? ⟨Y + 1, 1, none⟩ = some (.int .i64 b) ∧ w'.cell? ⟨Y + 1, 2, none⟩ = some (.int .i64 c) ∧ w'.cell? ⟨Y + 1, 3, none⟩ = some (.string k) ∧ w'.cell? ⟨Y + 1, 4, none⟩ = some (.slice p L.length cp) ∧ w'.cell? ⟨g0, o + j * 6, none⟩ = some (.string cj.nm)) mixedZ ?_
        refine wpAnyH_take (i := 0) (v := ?_) rfl (by kernel_rfl) (by kernel_rfl) (by kernel_rfl) (fun _ _ _ h => h) (Or.inl ⟨by kernel_rfl, ?_⟩) (by assumption) ?_
        rotate_left
        · intro w hSw
          obtain ⟨q0, q1, q2, q3, q4, q5, q6⟩ := hSw
          go_simp
          try (with_reducible rfl)
        (try simp only [Act.put]); (try simp only [List.setIfInBounds_toArray]); (try simp only [List.set_cons_zero, List.set_cons_succ])
        refine wpAnyH_take (i := 1) (v := ?_) rfl (by kernel_rfl) (by kernel_rfl) (by kernel_rfl) (fun _ _ _ h => h) (Or.inl ⟨by kernel_rfl, ?_⟩) (by assumption) ?_
        rotate_left
        · intro w hSw
          obtain ⟨q0, q1, q2, q3, q4, q5, q6⟩ := hSw
          go_simp
          try (with_reducible rfl)
        (try simp only [Act.put]); (try simp only [List.setIfInBounds_toArray]); (try simp only [List.set_cons_zero, List.set_cons_succ])
        refine wpAnyH_take (i := 2) (v := ?_) rfl (by kernel_rfl) (by kernel_rfl) (by kernel_rfl) (fun _ _ _ h => h) (Or.inl ⟨by kernel_rfl, ?_⟩) (by assumption) ?_
        rotate_left
        · intro w hSw
          obtain ⟨q0, q1, q2, q3, q4, q5, q6⟩ := hSw
          go_simp
          try (with_reducible rfl)
        (try simp only [Act.put]); (try simp only [List.setIfInBounds_toArray]); (try simp only [List.set_cons_zero, List.set_cons_succ])
        refine wpAnyH_take (i := 3) (v := ?_) rfl (by kernel_rfl) (by kernel_rfl) (by kernel_rfl) (fun _ _ _ h => h) (Or.inl ⟨by kernel_rfl, ?_⟩) (by assumption) ?_
        rotate_left
        · intro w hSw
          obtain ⟨q0, q1, q2, q3, q4, q5, q6⟩ := hSw
          go_simp
          try (with_reducible rfl)
        (try simp only [Act.put]); (try simp only [List.setIfInBounds_toArray]); (try simp only [List.set_cons_zero, List.set_cons_succ])
        refine wpAnyH_take (i := 4) (v := ?_) rfl (by kernel_rfl) (by kernel_rfl) (by kernel_rfl) (fun _ _ _ h => h) (Or.inl ⟨by kernel_rfl, ?_⟩) (by assumption) ?_
        rotate_left
        · intro w hSw
          obtain ⟨q0, q1, q2, q3, q4, q5, q6⟩ := hSw
          go_simp
          try (with_reducible rfl)
        (try simp only [Act.put]); (try simp only [List.setIfInBounds_toArray]); (try simp only [List.set_cons_zero, List.set_cons_succ])
        refine wpAnyH_take (i := 5) (v := ?_) rfl (by kernel_rfl) (by kernel_rfl) (by kernel_rfl) (fun _ _ _ h => h) (Or.inl ⟨by kernel_rfl, ?_⟩) (by assumption) ?_
        rotate_left
        · intro w hSw
          obtain ⟨q0, q1, q2, q3, q4, q5, q6⟩ := hSw
          go_simp
          try (with_reducible rfl)
        (try simp only [Act.put]); (try simp only [List.setIfInBounds_toArray]); (try simp only [List.set_cons_zero, List.set_cons_succ])
        refine wpAnyH_take (i := 6) (v := ?_) rfl (by kernel_rfl) (by kernel_rfl) (by kernel_rfl) (fun _ _ _ h => h) (Or.inl ⟨by kernel_rfl, ?_⟩) (by assumption) ?_
        rotate_left
        · intro w hSw
          obtain ⟨q0, q1, q2, q3, q4, q5, q6⟩ := hSw
          go_simp
          try (with_reducible rfl)
        (try simp only [Act.put]); (try simp only [List.setIfInBounds_toArray]); (try simp only [List.set_cons_zero, List.set_cons_succ])
        refine anyH_two 7 11 (by kernel_rfl) (fun K hK => ?_) (fun K hK => ?_)
        · refine wpOp_step rfl (fun K' hK' => ?_)
          go_simp
          go_at_call 33
          (with_reducible refine (GT2.out _ B0.out).mono ?_)
          rintro e w2 ⟨rfl, b2⟩
          have B2 := Lib.hid (B0.out.trans b2)
          have SX2 := SK.out w2 B2.out
          clear b2 SX
          refine hK' _ _ (hK _ _ ⟨SX2, ?_⟩)
          clear hK hK' K K'
          (try simp only [Act.put]); (try simp only [List.setIfInBounds_toArray]); (try simp only [List.set_cons_zero, List.set_cons_succ])
          refine wpAnyH_take (i := 8) (v := ?_) rfl (by kernel_rfl) (by kernel_rfl) (by kernel_rfl) (fun _ _ _ h => h) (Or.inl ⟨by kernel_rfl, ?_⟩) (by assumption) ?_
          rotate_left
          · intro w hSw
            obtain ⟨q0, q1, q2, q3, q4, q5, q6⟩ := hSw
            go_simp
            try (with_reducible rfl)
          (try simp only [Act.put]); (try simp only [List.setIfInBounds_toArray]); (try simp only [List.set_cons_zero, List.set_cons_succ])
          refine wpAnyH_take (i := 9) (v := ?_) rfl (by kernel_rfl) (by kernel_rfl) (by kernel_rfl) (fun _ _ _ h => h) (Or.inl ⟨by kernel_rfl, ?_⟩) (by assumption) ?_
          rotate_left
          · intro w hSw
            obtain ⟨q0, q1, q2, q3, q4, q5, q6⟩ := hSw
            go_simp
            try (with_reducible rfl)
          (try simp only [Act.put]); (try simp only [List.setIfInBounds_toArray]); (try simp only [List.set_cons_zero, List.set_cons_succ])
          refine wpAnyH_take (i := 10) (v := ?_) rfl (by kernel_rfl) (by kernel_rfl) (by kernel_rfl) (fun _ _ _ h => h) (Or.inl ⟨by kernel_rfl, ?_⟩) (by assumption) ?_
          rotate_left
          · intro w hSw
            obtain ⟨q0, q1, q2, q3, q4, q5, q6⟩ := hSw
            go_simp
            try (with_reducible rfl)
          (try simp only [Act.put]); (try simp only [List.setIfInBounds_toArray]); (try simp only [List.set_cons_zero, List.set_cons_succ])
          refine anyH_one 11 (by kernel_rfl) (fun K hK => ?_)
          refine wpOp_step rfl (fun K' hK' => ?_)
          go_simp
          refine hK' _ _ (hK _ _ ⟨SK.out _ (B2.out.alloc B2.out.size _), ?_⟩)
          clear hK hK' K K'
          refine anyH_one 12 (by kernel_rfl) (fun K hK => ?_)
          refine wpOp_step rfl (fun K' hK' => ?_)
          go_simp
          have SX9 := SK.out _ (B2.out.alloc B2.out.size (.cells #[.int .i64 vk, .int .i64 vn, .float .f64 vf, .string vs] 78))
          refine hK' _ _ (hK _ _ ⟨SX9, ?_⟩)
          clear hK hK' K K'
          (try simp only [Act.put]); (try simp only [List.setIfInBounds_toArray]); (try simp only [List.set_cons_zero, List.set_cons_succ])
          refine wpAnyH_take (i := 13) (v := ?_) rfl (by kernel_rfl) (by kernel_rfl) (by kernel_rfl) (fun _ _ _ h => h) (Or.inl ⟨by kernel_rfl, ?_⟩) (by assumption) ?_
          rotate_left
          · intro w hSw
            obtain ⟨q0, q1, q2, q3, q4, q5, q6⟩ := hSw
            go_simp
            try (with_reducible rfl)
          (try simp only [Act.put]); (try simp only [List.setIfInBounds_toArray]); (try simp only [List.set_cons_zero, List.set_cons_succ])
          refine wpAnyH_done (by kernel_rfl) ?_ _
          go_wp2_with fail
          go_meet
          exact ⟨w2.heap.size, rfl, rfl, Lib.hid (B2.out.alloc B2.out.size _), Lib.hid (heap_alloc_new w2 _)⟩
        · refine wpOp_step rfl (fun K' hK' => ?_)
          go_simp
          obtain ⟨W3, hW3, B3, K3⟩ : ∃ W3, W3 = (wr.alloc (.cells #[.int .i64 0, .int .i64 0, .float .f64 0, .string ⟨#[]⟩] 78)).drew ∧ Below wr.heap.size wr W3 ∧ Blk W3 wr.heap.size 78 #[.int .i64 0, .int .i64 0, .float .f64 0, .string ⟨#[]⟩] := ⟨_, rfl, ((Below.refl _ wr).alloc (Nat.le_refl _) _).drew, heap_alloc_new wr _⟩
          rw [← hW3]
          have B3h := Lib.hid B3
          have K3h := Lib.hid K3
          have SX3 := SK.out W3 B3
          clear hW3 B3 K3 SX
          refine hK' _ _ (hK _ _ ⟨SX3, ?_⟩)
          clear hK hK' K K'
          refine anyH_one 7 (by kernel_rfl) (fun K hK => ?_)
          refine wpOp_step rfl (fun K' hK' => ?_)
          go_simp
          go_at_call 33
          (with_reducible refine (GT2.out _ B3h.out).mono ?_)
          rintro e w2 ⟨rfl, b2⟩
          have B2 := Lib.hid (B3h.out.trans (b2.mono B3h.out.size))
          have K2 := Lib.hid (K3h.out.below b2)
          have SX2 := SK.out w2 B2.out
          clear b2 SX3
          refine hK' _ _ (hK _ _ ⟨SX2, ?_⟩)
          clear hK hK' K K'
          (try simp only [Act.put]); (try simp only [List.setIfInBounds_toArray]); (try simp only [List.set_cons_zero, List.set_cons_succ])
          refine wpAnyH_take (i := 8) (v := ?_) rfl (by kernel_rfl) (by kernel_rfl) (by kernel_rfl) (fun _ _ _ h => h) (Or.inl ⟨by kernel_rfl, ?_⟩) (by assumption) ?_
          rotate_left
          · intro w hSw
            obtain ⟨q0, q1, q2, q3, q4, q5, q6⟩ := hSw
            go_simp
            try (with_reducible rfl)
          (try simp only [Act.put]); (try simp only [List.setIfInBounds_toArray]); (try simp only [List.set_cons_zero, List.set_cons_succ])
          refine wpAnyH_take (i := 9) (v := ?_) rfl (by kernel_rfl) (by kernel_rfl) (by kernel_rfl) (fun _ _ _ h => h) (Or.inl ⟨by kernel_rfl, ?_⟩) (by assumption) ?_
          rotate_left
          · intro w hSw
            obtain ⟨q0, q1, q2, q3, q4, q5, q6⟩ := hSw
            go_simp
            try (with_reducible rfl)
          (try simp only [Act.put]); (try simp only [List.setIfInBounds_toArray]); (try simp only [List.set_cons_zero, List.set_cons_succ])
          refine wpAnyH_take (i := 10) (v := ?_) rfl (by kernel_rfl) (by kernel_rfl) (by kernel_rfl) (fun _ _ _ h => h) (Or.inl ⟨by kernel_rfl, ?_⟩) (by assumption) ?_
          rotate_left
          · intro w hSw
            obtain ⟨q0, q1, q2, q3, q4, q5, q6⟩ := hSw
            go_simp
            try (with_reducible rfl)
          (try simp only [Act.put]); (try simp only [List.setIfInBounds_toArray]); (try simp only [List.set_cons_zero, List.set_cons_succ])
          obtain ⟨W5, hW5, R5, B5⟩ := val_stored (w := wr) (Nat.le_refl wr.heap.size) ⟨vk, vn, vf, vs⟩ K2.out rfl B2.out
          simp only at hW5 R5
          have z0 : w2.cell? ⟨wr.heap.size, 0, none⟩ = some (.int .i64 0) := K2.out.cell 0
          have z1 : w2.cell? ⟨wr.heap.size, 1, none⟩ = some (.int .i64 0) := K2.out.cell 1
          have z2 : w2.cell? ⟨wr.heap.size, 2, none⟩ = some (.float .f64 0) := K2.out.cell 2
          have z3 : w2.cell? ⟨wr.heap.size, 3, none⟩ = some (.string ⟨#[]⟩) := K2.out.cell 3
          have f0 := K2.out.free 0
          have f1 := K2.out.free 1
          have f2 := K2.out.free 2
          have f3 := K2.out.free 3
          have W5h := Lib.hid hW5
          have R5h := Lib.hid R5
          have B5h := Lib.hid B5
          clear hW5 R5 B5
          refine anyH_one 12 (by kernel_rfl) (fun K hK => ?_)
          refine wpOp_step rfl (fun K' hK' => ?_)
          go_simp
          rw [← W5h.out]
          have SX9 := SK.out _ B5h.out
          refine hK' _ _ (hK _ _ ⟨SX9, ?_⟩)
          clear hK hK' K K'
          (try simp only [Act.put]); (try simp only [List.setIfInBounds_toArray]); (try simp only [List.set_cons_zero, List.set_cons_succ])
          refine wpAnyH_take (i := 13) (v := ?_) rfl (by kernel_rfl) (by kernel_rfl) (by kernel_rfl) (fun _ _ _ h => h) (Or.inl ⟨by kernel_rfl, ?_⟩) (by assumption) ?_
          rotate_left
          · intro w hSw
            obtain ⟨q0, q1, q2, q3, q4, q5, q6⟩ := hSw
            go_simp
            try (with_reducible rfl)
          (try simp only [Act.put]); (try simp only [List.setIfInBounds_toArray]); (try simp only [List.set_cons_zero, List.set_cons_succ])
          refine wpAnyH_done (by kernel_rfl) ?_ _
          go_wp2_with fail
          go_meet
          exact ⟨wr.heap.size, rfl, rfl, B5h, R5h⟩

      case rest =>
        clear d2
        obtain ⟨X, rfl, rfl, hB2, hK2⟩ := hcut
        generalize wc = wx at *
        have HX := hK2.out.lt
        have HBz := hB2.out.size
        have B9 := Lib.hid (HBW.out.trans (hB2.out.mono (by have := hyr; omega)))
        clear SK GT2 HBW
        cases fo with
        | none =>
          clear SK5
          (try simp only [Option.isSome_none])
          go_wp2_with fail
          go_quiet (fail)
          go_wp2_with fail
          go_ret
          exact ⟨by rw [AF.out (by rw [CE.out]; rfl)]; rfl, drewN_below B9.out _⟩
        | some g =>
          obtain rfl : g = ⟨vk, vn, vf, vs⟩ := hvv.out
          (try simp only [Option.isSome_some])
          have S7 : Hid (∀ w', Below wx.heap.size wx w' → (fun (w' : World) => w'.cell? ⟨Y, 2, none⟩ = some (.slice (some ⟨g0, o, none⟩) m cc) ∧ w'.cell? ⟨g0, o + j * 6 + 1, none⟩ = some (.int .i64 cj.op) ∧ w'.cell? ⟨g0, o + j * 6 + 2, none⟩ = some (.int .i64 cj.v.k) ∧ w'.cell? ⟨g0, o + j * 6 + 3, none⟩ = some (.int .i64 cj.v.n) ∧ w'.cell? ⟨g0, o + j * 6 + 4, none⟩ = some (.float .f64 cj.v.f) ∧ w'.cell? ⟨g0, o + j * 6 + 5, none⟩ = some (.string cj.v.s) ∧ w'.cell? ⟨X, 0, none⟩ = some (.int .i64 vk) ∧ w'.cell? ⟨X, 1, none⟩ = some (.int .i64 vn) ∧ w'.cell? ⟨X, 2, none⟩ = some (.float .f64 vf) ∧ w'.cell? ⟨X, 3, none⟩ = some (.string vs)) w') := Lib.hid fun w' h6 => by
            have hb2 : Below wr.heap.size wr w' := hB2.out.trans (h6.mono hB2.out.size)
            have K6 := hK2.out.below h6
            obtain ⟨s1, s2, s3, s4, s5⟩ := SK5.out w' hb2
            exact ⟨(NV.out w' (hB.out.trans (hb2.mono hyr))).cell 2, s1, s2, s3, s4, s5, K6.cell 0, K6.cell 1, K6.cell 2, K6.cell 3⟩
          have HO := Lib.hid (fun w' => rholds_any cj.op ⟨vk, vn, vf, vs⟩ cj.v F3.out CW.out w')
          unfold Val.val at HO
          simp only at HO
          have CE2 : Hid (condE L cj = opS cj.op (stV ⟨vk, vn, vf, vs⟩ cj.v)) := Lib.hid (by rw [CE.out]; rfl)
          generalize opS cj.op (stV ⟨vk, vn, vf, vs⟩ cj.v) = bo at *
          clear SK5 CE
          go_upto_region 7 with fail
          go_cut [59] from 41 to 58 (fun s59 wz => s59 = .bool (!bo) ∧ Hid (Below wx.heap.size wx wz))
          case first =>
            have S1 := S7.out wx.drew ((Below.refl wx.heap.size wx).drew)
            have B0 := Lib.hid ((Below.refl wx.heap.size wx).drew)
            go_region_held3 (fun (w' : World) => w'.cell? ⟨Y, 2, none⟩ = some (.slice (some ⟨g0, o, none⟩) m cc) ∧ w'.cell? ⟨g0, o + j * 6 + 1, none⟩ = some (.int .i64 cj.op) ∧ w'.cell? ⟨g0, o + j * 6 + 2, none⟩ = some (.int .i64 cj.v.k) ∧ w'.cell? ⟨g0, o + j * 6 + 3, none⟩ = some (.int .i64 cj.v.n) ∧ w'.cell? ⟨g0, o + j * 6 + 4, none⟩ = some (.float .f64 cj.v.f) ∧ w'.cell? ⟨g0, o + j * 6 + 5, none⟩ = some (.string cj.v.s) ∧ w'.cell? ⟨X, 0, none⟩ = some (.int .i64 vk) ∧ w'.cell? ⟨X, 1, none⟩ = some (.int .i64 vn) ∧ w'.cell? ⟨X, 2, none⟩ = some (.float .f64 vf) ∧ w'.cell? ⟨X, 3, none⟩ = some (.string vs))
              (first | exact S1 | exact S2 | assumption)
              (first | (go_at_call 34; (with_reducible refine (HO.out _).mono ?_); rintro e w2 ⟨rfl, b2⟩; have B2 := Lib.hid (B0.out.trans b2); have S2 := S7.out w2 B2.out))
            all_goals (go_wp2_with fail; go_meet; exact ⟨rfl, B2⟩)
          case rest =>
            obtain ⟨rfl, hcut⟩ := hcut
            have B9 := Lib.hid (B9.out.trans (hcut.out.mono (by have := HBz; have := hyr; omega)))
            have BW9 := Lib.hid (hB.out.trans ((hB2.out.trans (hcut.out.mono hB2.out.size)).mono hyr))
            clear S7 HO
            cases bo with
            | false =>
              go_wp2_with fail
              go_ret
              exact ⟨by rw [AF.out CE2.out]; rfl, B9.out⟩
            | true =>
              have AT := Lib.hid (AT.out.trans CE2.out)
              go_wp2_with fail
              go_roundw
              case rel => exact ⟨j + 1, by go_num, by omega, BW9, AT⟩
              case measure => simp [intOf]; omega

    · obtain rfl : j = m := by omega
      have jI : ¬ (j : Int) < (j : Int) := by omega
      have AL : Hid (cs.all (condE L) = true) := Lib.hid (by
        have := hA.out
        rw [List.take_of_length_le (by rw [HM.out]; exact Nat.le_refl _)] at this
        exact this)
      go_wp2_with fail
      go_ret
      exact ⟨by rw [AL.out]; rfl, hBw⟩
end Go.Proofs.YtkajadkmdcalmaaGreatDoor
