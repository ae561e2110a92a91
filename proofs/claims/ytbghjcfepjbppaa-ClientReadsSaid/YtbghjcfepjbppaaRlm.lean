/-
  THE LAW OF ClientReads AS A WALK.
-/
import Derived.Test.YtbghjcfepjbppaaRll
import Derived.Test.YtbghjcfepjbppaaRlq
import Derived.Test.YtbghjcfepjbppaaRzl
import Derived.Test.YtbghjcfepjbppaaOpa
import Derived.Deep.CutRange
import Derived.Laws.Tables
import Derived.Deep.CutBlock
namespace Go.Proofs.Ytbghjcfepjbppaa
open Go.RowKit
/-- behind j acts -/
def LJ (W0 : World) (t bx : Nat) (nodes : Int) (nm : ByteArray) (most : Int) (j : Nat) (w : World) : Prop := ∃ s, RS.Ok s (j * 20) ∧ LR W0 t bx nodes nm most s s w
theorem lj_start {W w1 : World} {t : Nat} {nodes : Int} {nm : ByteArray} {most : Int} (ht : W.heap.size ≤ t) (T : Blk w1 t 119 (rdr nodes 0 nm most 0 0 (.slice none 0 0))) (b : Below W.heap.size W w1) :
    LJ W t w1.heap.size nodes nm most 0 (w1.alloc (.cells #[.int .i64 nodes, .int .i64 0, .int .i64 0, .int .i64 0, .slice none 0 0, .slice none 0 0] 58)) := by
  have htl := T.lt
  have B1 : Below w1.heap.size w1 (w1.alloc (.cells #[.int .i64 nodes, .int .i64 0, .int .i64 0, .int .i64 0, .slice none 0 0, .slice none 0 0] 58)) := (Below.refl _ _).alloc (Nat.le_refl _) _
  have hs : (w1.alloc (.cells #[.int .i64 nodes, .int .i64 0, .int .i64 0, .int .i64 0, .slice none 0 0, .slice none 0 0] 58)).heap.size = w1.heap.size + 1 := by simp
  refine ⟨⟨0, 0, 0, []⟩, ⟨⟨by decide, by decide⟩, ⟨by decide, by decide⟩, ⟨by decide, by decide⟩, by simp, fun x hx => by simp at hx⟩, fun q => q = t, fun q => q < W.heap.size, none, 0, none, 0, ?_⟩
  refine ⟨⟨.slice none 0 0, [], ⟨T.below B1, World.ownsRow_nil _ _ _ _, fun q hq => by simp [Value.ownBlock] at hq, fun i hi => by simp at hi, rfl, fun q hq => by simp [Value.ownBlock] at hq, fun q hq => by subst hq; omega⟩⟩, Blk.new _ _ _, ⟨numsD_nil _ _ _, rwsD_nil _ _ _⟩, fun q hq => ⟨by have := b.size; omega, fun e => by omega, fun e => by have := b.size; omega⟩, fun q hq => hq, fun q hq => by subst hq; exact ht, fun e => by omega, b.size, b.trans (B1.mono b.size)⟩
theorem bld63 (a c d : Int) (b : ByteArray) (w : World) : (Instr.build 63 #[(0, .int .i64 a), (2, .string b), (3, .int .i64 c), (4, .int .i64 d)]).run Try.prog w = .ok (askV a ⟨#[]⟩ b c d) w := by
  exact run_build w 63 _ _ (by kernel_rfl)
theorem Grw.next {w w' : World} {a : Option Addr} {LG : List (Int × List Int)} (h : Grw w a LG) (b : Below w.heap.size w w') : Grw w' a LG := fun i hi => by
  obtain ⟨g, q, c, e, hg, c0, c1, nn⟩ := h i hi
  exact ⟨g, q, c, e, Nat.lt_of_lt_of_le hg b.size, (b.cell (p := ⟨g, _, none⟩) hg).trans c0, (b.cell (p := ⟨g, _, none⟩) hg).trans c1, nn.next b⟩
theorem LJ.next {W0 w w' : World} {t bx j : Nat} {nodes most : Int} {nm : ByteArray} (h : LJ W0 t bx nodes nm most j w) (b : Below w.heap.size w w') : LJ W0 t bx nodes nm most j w' := by
  obtain ⟨s, ok, k⟩ := h
  exact ⟨s, ok, k.next b⟩
theorem RS.Ok.mono {s : RS} {m m' : Nat} (h : s.Ok m) (hm : m ≤ m') : s.Ok m' := ⟨h.to, h.at_, h.gone, Nat.le_trans h.n hm, h.sm⟩
theorem LJ.more {W0 w : World} {t bx j : Nat} {nodes most : Int} {nm : ByteArray} (h : LJ W0 t bx nodes nm most j w) : LJ W0 t bx nodes nm most (j + 1) w := by
  obtain ⟨s, ok, k⟩ := h
  exact ⟨s, ok.mono (by omega), k⟩
set_option linter.unusedSimpArgs false in
set_option maxHeartbeats 8000000 in
set_option maxRecDepth 100000 in
theorem reads_yes (nodes most : Int) (nm : ByteArray) (a : Option Addr) (c : Nat) (R : List AcT) (W : World) (h : mayR nodes nm most = true) (hx : AcsT W a R) (hS : ∀ x ∈ R, x.sm) (hl : R.length ≤ 9223372036854775807) :
    Calls Try.prog 4 #[.agg #[.int .i64 nodes, .string nm], .int .i64 most, .slice a R.length c] W fun e w' => e = .returned (.bool true) ∧ Below W.heap.size W w' := by
  have NR := Lib.hid (fun W => rdr_new nodes nm most h W)
  unfold mayR manyB at h
  simp only [Bool.and_eq_true, decide_eq_true_eq] at h
  obtain ⟨⟨h1, h2⟩, h3, h4⟩ := h
  have hs := wordB_size h3
  have WD := Lib.hid (fun W => rword_any nm (by omega) W)
  rw [h3] at WD
  have B1 := Lib.hid (fun o d => drewB ((Below.refl W.heap.size W).alloc (Nat.le_refl _) o) d)
  have hz : Hid (∀ o d, W.heap.size ≤ ((W.alloc o).drewN d).heap.size) := Lib.hid (fun o d => (B1.out o d).size)
  have ST := Lib.hid (fun (w1 : World) (t : Nat) ht T b => lj_start (W := W) (w1 := w1) (t := t) (nodes := nodes) (nm := nm) (most := most) ht T b)
  have FIN := Lib.hid (fun (w9 : World) (t bx j : Nat) (k : LJ W t bx nodes nm most j w9) => show Below W.heap.size W w9 from by
    obtain ⟨s, _, U, V, an, cn, ag, cg, k⟩ := k
    exact k.b)
  have g1 : decide (nodes < 1) = false := decide_eq_false (by omega)
  have g2 : decide (7 < nodes) = false := decide_eq_false (by omega)
  have g4 : decide (most < 1) = false := decide_eq_false (by omega)
  obtain ⟨n, hn⟩ : ∃ n, n = R.length := ⟨_, rfl⟩
  have HN := Lib.hid hn
  have HX := Lib.hid hx
  have HS := Lib.hid hS
  rw [← hn] at hl ⊢
  have hlI : (n : Int) ≤ 9223372036854775807 := by omega
  clear hx hS hn h3
  go_enter Try.func4, Try.ntmps4
  go_wp2_with fail
  go_quiet (fail)
  go_wp2_with fail
  refine (NR.out _).mono ?_
  rintro e w1 ⟨t, rfl, ht, T, b1⟩
  have b1' : Below W.heap.size W w1 := (B1.out _ _).trans (b1.mono (hz.out _ _))
  have S1 := Lib.hid (ST.out w1 t (Nat.le_trans (hz.out _ _) ht) T b1')
  clear T b1 b1' ST NR B1 hz ht
  go_wp2_with fail
  refine (WD.out _).mono ?_
  rintro e w1' ⟨rfl, rfl⟩
  go_wp2_with fail
  generalize hW2 : w1.alloc (.cells #[.int .i64 nodes, .int .i64 0, .int .i64 0, .int .i64 0, .slice none 0 0, .slice none 0 0] 58) = w2 at *
  clear hW2
  generalize w1.heap.size = bx at *
  refine (awake_any _).mono ?_
  rintro e w3 ⟨rfl, b3⟩
  have S3 := Lib.hid (S1.out.next b3)
  clear b3 S1
  go_wp2_with fail
  go_loopw [11] (fun i wr => ∃ (j : Nat), i = .int .i64 j ∧ j ≤ n ∧ j ≤ 200 ∧ Hid (LJ W t bx nodes nm most j wr)) (fun i wr => n - (intOf i).toNat)
  case atStart => exact ⟨0, rfl, Nat.zero_le _, Nat.zero_le _, S3⟩
  case round =>
    obtain ⟨j, rfl, hj, hj2, hR⟩ := hrel
    clear S3
    by_cases hjn : j < n
    · have jI : (j : Int) < (n : Int) := by omega
      have jB := decide_eq_true jI
      by_cases hjk : j < 200
      · have kI : (j : Int) < 200 := by omega
        have kB := decide_eq_true kI
        have hjL : j < R.length := by rw [← HN.out]; exact hjn
        obtain ⟨ga, oa, fq, fc, lq, lc, rfl, hga, hAt⟩ := HX.out j hjL
        have hsm := HS.out _ (List.getElem_mem hjL)
        obtain ⟨x, hx⟩ : ∃ x, x = R[j]'hjL := ⟨_, rfl⟩
        rw [← hx] at hAt hsm
        obtain ⟨⟨a0, a1, a2, a3, a4, a5, a6, a7, a8, a9, a10⟩, hF, hL, hok⟩ := hAt
        simp only [add_at, Nat.add_zero] at a0 a1 a2 a3 a4 a5 a6 a7 a8 a9 a10
        have bw := FIN.out _ _ _ _ hR.out
        have up : ∀ {i : Nat} {v : Value}, W.cell? ⟨ga, i, none⟩ = some v → wr.cell? ⟨ga, i, none⟩ = some v := fun {i v} hc => (bw.cell (p := ⟨ga, i, none⟩) hga).trans hc
        have c0 := up a0
        have c1 := up a1
        have c2 := up a2
        have c3 := up a3
        have c4 := up a4
        have c5 := up a5
        have c6 := up a6
        have c7 := up a7
        have c8 := up a8
        have c9 := up a9
        have c10 := up a10
        clear a0 a1 a2 a3 a4 a5 a6 a7 a8 a9 a10 up hx
        have BW := Lib.hid bw
        have HL := Lib.hid hL
        have HSm := Lib.hid hsm.1
        have HO := Lib.hid hok.1
        clear bw hL hsm hF hok
        obtain ⟨xk, xa, xb, xc, xe, xF, xer, xrn, xle, xn, xL⟩ := x
        simp only at *
        generalize xF.length = mF at *
        obtain ⟨m, hm⟩ : ∃ m, m = xL.length := ⟨_, rfl⟩
        have HM := Lib.hid hm
        rw [← hm] at c10
        clear hm
        by_cases hm20 : m ≤ 20
        · have mI : (m : Int) ≤ 20 := by omega
          have mB : decide (20 < (m : Int)) = false := by simp; omega
          obtain ⟨s0, ok0, L0⟩ := hR.out
          have OK := Lib.hid ok0
          obtain ⟨X1, hX1, K1, B1, hs1⟩ : ∃ w1, w1 = wr.alloc (.cells #[.int .i64 xk, .int .i64 xa, .int .i64 xb, .int .i64 xc, .string xe, .slice fq mF fc, .int .i64 xer, .int .i64 xrn, .int .i64 xle, .int .i64 xn, .slice lq m lc] 37) ∧ Blk w1 wr.heap.size 37 #[.int .i64 xk, .int .i64 xa, .int .i64 xb, .int .i64 xc, .string xe, .slice fq mF fc, .int .i64 xer, .int .i64 xrn, .int .i64 xle, .int .i64 xn, .slice lq m lc] ∧ Below wr.heap.size wr w1 ∧ w1.heap.size = wr.heap.size + 1 := ⟨_, rfl, Blk.new _ _ _, (Below.refl _ _).alloc (Nat.le_refl _) _, by simp⟩
          have W1 := Lib.hid hX1
          have L1 := Lib.hid (L0.next B1)
          have KX := Lib.hid K1
          have BW1 := Lib.hid (BW.out.trans (B1.mono BW.out.size))
          have LbX : bx < wr.heap.size := by obtain ⟨U, V, an, cn, ag, cg, L⟩ := L0; exact L.bk.lt
          clear ok0 L0 hR hX1 B1
          go_upto_block 2 with fail
          rw [← W1.out]
          clear W1 c0 c1 c2 c3 c4 c5 c6 c7 c8 c9 c10
          generalize wr.heap.size = X at *
          go_cut [13] from 53 to 171 (fun _s13 wx => ∃ s', Hid (RS.Ok s' ((j + 1) * 20)) ∧ Hid (LR W t bx nodes nm most s' s' wx))
          case first =>
            by_cases k3 : xk = 3
            · subst k3
              obtain ⟨U, V, an, cn, ag, cg, L⟩ := L1.out
              have Lh := Lib.hid L
              have RW := Lib.hid (rowsD_any (w := X1.drew) lc (((rws_D HL.out).next BW1.out).next (Below.refl X1.heap.size X1).drew) (fun q hq => Nat.lt_of_lt_of_le hq BW1.out.size) (by rw [← HM.out]; omega))
              rw [← HM.out] at RW
              have TD := Lib.hid (fun (v2 : World) (b : Below X1.heap.size X1 v2) (a2 : Option Addr) (c2 : Nat) (hR : RwsD v2 (fun q => (q < W.heap.size ∨ X1.heap.size ≤ q) ∧ q < v2.heap.size) a2 xL) => Lh.out.told OK.out (by omega) b c2 xn xer hR (by rw [← HM.out]; exact hm20) HO.out.2)
              rw [← HM.out] at TD
              have SR := Lib.hid (fun (v3 : World) (an' : Option Addr) (cn' : Nat) (ag' : Option Addr) (cg' : Nat) b n' g' => Lh.out.stored (s' := s0.told nodes xL xn xer) (v3 := v3) (an' := an') (cn' := cn') (ag' := ag') (cg' := cg') b n' g')
              have KB := Lib.hid L.bk
              have b0 : X1.drew.cell? ⟨bx, 0, none⟩ = some (.int .i64 nodes) := L.bk.cell 0
              have b1 : X1.drew.cell? ⟨bx, 1, none⟩ = some (.int .i64 s0.to) := L.bk.cell 1
              have b2 : X1.drew.cell? ⟨bx, 2, none⟩ = some (.int .i64 s0.at_) := L.bk.cell 2
              have b3 : X1.drew.cell? ⟨bx, 3, none⟩ = some (.int .i64 s0.gone) := L.bk.cell 3
              have b4 : X1.drew.cell? ⟨bx, 4, none⟩ = some (.slice an s0.LG.length cn) := L.bk.cell 4
              have b5 : X1.drew.cell? ⟨bx, 5, none⟩ = some (.slice ag s0.LG.length cg) := L.bk.cell 5
              have k0 : X1.cell? ⟨X, 0, none⟩ = some (.int .i64 3) := KX.out.cell 0
              have k6 : X1.drew.cell? ⟨X, 6, none⟩ = some (.int .i64 xer) := KX.out.cell 6
              have k9 : X1.drew.cell? ⟨X, 9, none⟩ = some (.int .i64 xn) := KX.out.cell 9
              have k10 : X1.drew.cell? ⟨X, 10, none⟩ = some (.slice lq m lc) := KX.out.cell 10
              clear L
              unfold RowD at RW
              unfold DocS docV at TD
              rw [← HM.out] at RW
              have OK2 := Lib.hid (OK.out.told (nodes := nodes) (n := xn) (e := xer) (by omega) (by rw [← HM.out]; exact hm20) HSm.out HO.out.2)
              have hXb : X ≠ bx := by have := KB.out.lt; have := KX.out.lt; have hh := LbX; omega
              generalize hs' : s0.told nodes xL xn xer = s' at *
              have HS' := Lib.hid hs'
              clear hs'
              go_upto_region 15 with fail
              go_cut [13] from 53 to 171 (fun _s13 wx => Hid (LR W t bx nodes nm most s0 s' wx) ∧ Hid (Blk wx X 37 #[.int .i64 3, .int .i64 xa, .int .i64 xb, .int .i64 xc, .string xe, .slice fq mF fc, .int .i64 xer, .int .i64 xrn, .int .i64 xle, .int .i64 xn, .slice lq m lc]))
              case first =>
                have SK : Hid (∀ w', Below X1.heap.size X1 w' → w'.cell? ⟨bx, 0, none⟩ = some (.int .i64 nodes) ∧ w'.cell? ⟨bx, 1, none⟩ = some (.int .i64 s0.to) ∧ w'.cell? ⟨bx, 2, none⟩ = some (.int .i64 s0.at_) ∧ w'.cell? ⟨bx, 3, none⟩ = some (.int .i64 s0.gone) ∧ w'.cell? ⟨bx, 4, none⟩ = some (.slice an s0.LG.length cn) ∧ w'.cell? ⟨bx, 5, none⟩ = some (.slice ag s0.LG.length cg) ∧ w'.cell? ⟨X, 6, none⟩ = some (.int .i64 xer) ∧ w'.cell? ⟨X, 9, none⟩ = some (.int .i64 xn) ∧ w'.cell? ⟨X, 10, none⟩ = some (.slice lq m lc)) := Lib.hid (fun w' b => by
                  have K := KB.out.below b
                  have KY := KX.out.below b
                  exact ⟨K.cell 0, K.cell 1, K.cell 2, K.cell 3, K.cell 4, K.cell 5, KY.cell 6, KY.cell 9, KY.cell 10⟩)
                have SX := SK.out X1.drew (Below.refl X1.heap.size X1).drew
                clear k6 k9 k10 b0 b1 b2 b3 b4 b5 k0
                refine region_Z (fun w' => w'.cell? ⟨bx, 0, none⟩ = some (.int .i64 nodes) ∧ w'.cell? ⟨bx, 1, none⟩ = some (.int .i64 s0.to) ∧ w'.cell? ⟨bx, 2, none⟩ = some (.int .i64 s0.at_) ∧ w'.cell? ⟨bx, 3, none⟩ = some (.int .i64 s0.gone) ∧ w'.cell? ⟨bx, 4, none⟩ = some (.slice an s0.LG.length cn) ∧ w'.cell? ⟨bx, 5, none⟩ = some (.slice ag s0.LG.length cg) ∧ w'.cell? ⟨X, 6, none⟩ = some (.int .i64 xer) ∧ w'.cell? ⟨X, 9, none⟩ = some (.int .i64 xn) ∧ w'.cell? ⟨X, 10, none⟩ = some (.slice lq m lc)) 10 mixedE SX (fun _ => ?_)
                refine anyZ_take 0 (v := ?_) rfl rfl (by kernel_rfl) rfl (by kernel_rfl) (by kernel_rfl) (by kernel_rfl) (fun _ _ _ h => h) (Or.inl ⟨by rfl, ?_⟩) (by assumption) ?_
                rotate_left
                · intro w hSw
                  obtain ⟨q0, q1, q2, q3, q4, q5, q6, q7, q8⟩ := hSw
                  go_simp
                  try (with_reducible rfl)
                (try simp only [Act.put, List.setIfInBounds_toArray, List.set_cons_zero, List.set_cons_succ])
                refine anyZ_take 1 (v := ?_) rfl rfl (by kernel_rfl) rfl (by kernel_rfl) (by kernel_rfl) (by kernel_rfl) (fun _ _ _ h => h) (Or.inl ⟨by rfl, ?_⟩) (by assumption) ?_
                rotate_left
                · intro w hSw
                  obtain ⟨q0, q1, q2, q3, q4, q5, q6, q7, q8⟩ := hSw
                  go_simp
                  try (with_reducible rfl)
                (try simp only [Act.put, List.setIfInBounds_toArray, List.set_cons_zero, List.set_cons_succ])
                refine anyZ_take 2 (v := ?_) rfl rfl (by kernel_rfl) rfl (by kernel_rfl) (by kernel_rfl) (by kernel_rfl) (fun _ _ _ h => h) (Or.inl ⟨by rfl, ?_⟩) (by assumption) ?_
                rotate_left
                · intro w hSw
                  obtain ⟨q0, q1, q2, q3, q4, q5, q6, q7, q8⟩ := hSw
                  go_simp
                  try (with_reducible rfl)
                (try simp only [Act.put, List.setIfInBounds_toArray, List.set_cons_zero, List.set_cons_succ])
                refine anyZ_take 4 (v := ?_) rfl rfl (by kernel_rfl) rfl (by kernel_rfl) (by kernel_rfl) (by kernel_rfl) (fun _ _ _ h => h) (Or.inl ⟨by rfl, ?_⟩) (by assumption) ?_
                rotate_left
                · intro w hSw
                  obtain ⟨q0, q1, q2, q3, q4, q5, q6, q7, q8⟩ := hSw
                  go_simp
                  try (with_reducible rfl)
                (try simp only [Act.put, List.setIfInBounds_toArray, List.set_cons_zero, List.set_cons_succ])
                refine anyZ_take 5 (v := ?_) rfl rfl (by kernel_rfl) rfl (by kernel_rfl) (by kernel_rfl) (by kernel_rfl) (fun _ _ _ h => h) (Or.inl ⟨by rfl, ?_⟩) (by assumption) ?_
                rotate_left
                · intro w hSw
                  obtain ⟨q0, q1, q2, q3, q4, q5, q6, q7, q8⟩ := hSw
                  go_simp
                  try (with_reducible rfl)
                (try simp only [Act.put, List.setIfInBounds_toArray, List.set_cons_zero, List.set_cons_succ])
                refine anyZ_take 6 (v := ?_) rfl rfl (by kernel_rfl) rfl (by kernel_rfl) (by kernel_rfl) (by kernel_rfl) (fun _ _ _ h => h) (Or.inl ⟨by rfl, ?_⟩) (by assumption) ?_
                rotate_left
                · intro w hSw
                  obtain ⟨q0, q1, q2, q3, q4, q5, q6, q7, q8⟩ := hSw
                  go_simp
                  try (with_reducible rfl)
                (try simp only [Act.put, List.setIfInBounds_toArray, List.set_cons_zero, List.set_cons_succ])
                refine anyZ_take 7 (v := ?_) rfl rfl (by kernel_rfl) rfl (by kernel_rfl) (by kernel_rfl) (by kernel_rfl) (fun _ _ _ h => h) (Or.inl ⟨by rfl, ?_⟩) (by assumption) ?_
                rotate_left
                · intro w hSw
                  obtain ⟨q0, q1, q2, q3, q4, q5, q6, q7, q8⟩ := hSw
                  go_simp
                  try (with_reducible rfl)
                (try simp only [Act.put, List.setIfInBounds_toArray, List.set_cons_zero, List.set_cons_succ])
                refine anyZ_take 8 (v := ?_) rfl rfl (by kernel_rfl) rfl (by kernel_rfl) (by kernel_rfl) (by kernel_rfl) (fun _ _ _ h => h) (Or.inl ⟨by rfl, ?_⟩) (by assumption) ?_
                rotate_left
                · intro w hSw
                  obtain ⟨q0, q1, q2, q3, q4, q5, q6, q7, q8⟩ := hSw
                  go_simp
                  try (with_reducible rfl)
                (try simp only [Act.put, List.setIfInBounds_toArray, List.set_cons_zero, List.set_cons_succ])
                refine anyZ_one 3 rfl (by kernel_rfl) (fun K hK => ?_)
                refine wpOp_step rfl (fun K' hK' => ?_)
                go_simp
                go_at_call 20
                refine RW.out.mono ?_
                rintro r9 v2 ⟨a2, c2, rfl, rr, bb⟩
                have BV : Hid (Below X1.heap.size X1 v2) := Lib.hid ((Below.refl X1.heap.size X1).drew.trans bb)
                have RV : Hid (RwsD v2 (fun q => (q < W.heap.size ∨ X1.heap.size ≤ q) ∧ q < v2.heap.size) a2 xL) := Lib.hid rr.bound
                have S2 := SK.out v2 BV.out
                clear bb rr
                refine hK' _ _ (hK _ _ ⟨fun _ => S2, ?_⟩)
                clear hK hK' K K' SX
                (try simp only [Act.put, List.setIfInBounds_toArray, List.set_cons_zero, List.set_cons_succ])
                refine anyZ_one 9 rfl (by kernel_rfl) (fun K hK => ?_)
                refine wpOp_step rfl (fun K' hK' => ?_)
                clear S2
                go_simp
                go_at_call 19
                refine (TD.out v2 BV.out a2 c2 RV.out).mono ?_
                rintro r9 v3 ⟨an', cn', ag', cg', rfl, n', g', b9⟩
                obtain ⟨w4, hw4, L4, f4⟩ := SR.out v3 an' cn' ag' cg' b9 n' g'
                have KV := KB.out.below b9
                have S3 := SK.out v3 b9
                have W4 := Lib.hid hw4
                have L4h := Lib.hid L4
                have K4h := Lib.hid ((KX.out.below b9).fr f4 hXb)
                clear b9 n' g' hw4 L4 f4
                refine hK' _ _ (hK _ _ ⟨fun _ => S3, ?_⟩)
                clear hK hK' K K'
                (try simp only [Act.put, List.setIfInBounds_toArray, List.set_cons_zero, List.set_cons_succ])
                refine anyZ_one 10 rfl (by kernel_rfl) (fun K hK => ?_)
                refine wpOp_step rfl (fun K' hK' => ?_)
                obtain ⟨f0, f1, f2, f3, f4', f5, _, _, _⟩ := S3
                have fz : ∀ i, v3.frozen? ⟨bx, i, none⟩ = false := KV.free
                go_simp
                rw [← W4.out]
                refine hK' _ _ (hK _ _ ⟨fun h => absurd rfl h, ?_⟩)
                clear hK hK' K K' f0 f1 f2 f3 f4' f5 fz W4 KV
                (try simp only [Act.put, List.setIfInBounds_toArray, List.set_cons_zero, List.set_cons_succ])
                refine anyZ_done (by kernel_rfl) ?_ _
                go_wp2_with fail
                go_meet
                exact ⟨L4h, K4h⟩
              case rest =>
                obtain ⟨L3, K3⟩ := hcut
                have t6 : wc.cell? ⟨X, 6, none⟩ = some (.int .i64 xer) := K3.out.cell 6
                have t9 : wc.cell? ⟨X, 9, none⟩ = some (.int .i64 xn) := K3.out.cell 9
                have t10 : wc.cell? ⟨X, 10, none⟩ = some (.slice lq m lc) := K3.out.cell 10
                have TP := Lib.hid (L3.out.told lc xn xer OK.out (by omega) h2 HL.out HSm.out (by rw [← HM.out]; exact hm20) HO.out.2)
                rw [← HM.out, HS'.out] at TP
                clear b0 b1 b2 b3 b4 b5 k0 k6 k9 k10 KB SR TD RW Lh KX L1 K3 L3
                go_wp2_with fail
                refine TP.out.mono ?_
                rintro e9 w9 ⟨rfl, L9⟩
                have L9 := Lib.hid L9
                clear t6 t9 t10 TP
                go_wp2_with fail
                go_meet
                exact ⟨s', Lib.hid (by rw [show (j + 1) * 20 = j * 20 + 20 by omega]; exact OK2.out), L9⟩
            · have k3B : (xk == 3) = false := by rw [beq_eq_false_iff_ne]; exact k3
              by_cases k4 : xk = 4
              · subst k4
                obtain ⟨U, V, an, cn, ag, cg, L⟩ := L1.out
                have Lh := Lib.hid L
                have TD := Lib.hid (Lh.out.told (LL := []) OK.out (by omega) (Below.refl _ _) (a2 := none) 0 (-1) 1 (rwsD_nil _ _ _) (by simp) (by omega))
                have SR := Lib.hid (fun (v3 : World) (an' : Option Addr) (cn' : Nat) (ag' : Option Addr) (cg' : Nat) b n' g' => Lh.out.stored (s' := s0.told nodes [] (-1) 1) (v3 := v3) (an' := an') (cn' := cn') (ag' := ag') (cg' := cg') b n' g')
                have OK2 := Lib.hid (OK.out.told (nodes := nodes) (LL := []) (n := -1) (e := 1) h2 (by simp) (fun x hx => by simp at hx) (by omega))
                have KB := Lib.hid L.bk
                have b0 : X1.cell? ⟨bx, 0, none⟩ = some (.int .i64 nodes) := L.bk.cell 0
                have b1 : X1.cell? ⟨bx, 1, none⟩ = some (.int .i64 s0.to) := L.bk.cell 1
                have b2 : X1.cell? ⟨bx, 2, none⟩ = some (.int .i64 s0.at_) := L.bk.cell 2
                have b3 : X1.cell? ⟨bx, 3, none⟩ = some (.int .i64 s0.gone) := L.bk.cell 3
                have b4 : X1.cell? ⟨bx, 4, none⟩ = some (.slice an s0.LG.length cn) := L.bk.cell 4
                have b5 : X1.cell? ⟨bx, 5, none⟩ = some (.slice ag s0.LG.length cg) := L.bk.cell 5
                have k0 : X1.cell? ⟨X, 0, none⟩ = some (.int .i64 4) := KX.out.cell 0
                clear L
                have HS' := Lib.hid (told_late nodes s0)
                unfold DocS docV at TD
                generalize hs' : s0.told nodes [] (-1) 1 = s' at *
                clear hs'
                go_wp2_with fail
                refine TD.out.mono ?_
                rintro e v3 ⟨an', cn', ag', cg', rfl, n', g', b9⟩
                obtain ⟨w4, hw4, L4, f4⟩ := SR.out v3 an' cn' ag' cg' b9 n' g'
                have KV := KB.out.below b9
                have f0 : v3.cell? ⟨bx, 0, none⟩ = some (.int .i64 nodes) := KV.cell 0
                have f1 : v3.cell? ⟨bx, 1, none⟩ = some (.int .i64 s0.to) := KV.cell 1
                have f2 : v3.cell? ⟨bx, 2, none⟩ = some (.int .i64 s0.at_) := KV.cell 2
                have f3 : v3.cell? ⟨bx, 3, none⟩ = some (.int .i64 s0.gone) := KV.cell 3
                have f4' : v3.cell? ⟨bx, 4, none⟩ = some (.slice an s0.LG.length cn) := KV.cell 4
                have f5 : v3.cell? ⟨bx, 5, none⟩ = some (.slice ag s0.LG.length cg) := KV.cell 5
                have fz : ∀ i, v3.frozen? ⟨bx, i, none⟩ = false := KV.free
                have W4 := Lib.hid hw4
                have TP := Lib.hid (L4.late OK.out h2)
                rw [← HS'.out] at TP
                clear b0 b1 b2 b3 b4 b5 k0 KB SR TD Lh KX L1 b9 n' g' KV hw4 L4 f4
                go_wp2_with fail
                rw [← W4.out]
                refine TP.out.mono ?_
                rintro e9 w9 ⟨rfl, L9⟩
                have L9 := Lib.hid L9
                clear TP W4 f0 f1 f2 f3 f4' f5 fz
                go_wp2_with fail
                go_meet
                exact ⟨s', Lib.hid (by rw [show (j + 1) * 20 = j * 20 + 20 by omega]; exact OK2.out), L9⟩
              · have k4B : (xk == 4) = false := by rw [beq_eq_false_iff_ne]; exact k4
                go_wp2_with fail
                go_meet
                exact ⟨s0, Lib.hid (OK.out.mono (by omega)), L1⟩
          case rest =>
            obtain ⟨s', OK', L'⟩ := hcut
            clear OK L1 KX HL HSm HO HM mI mB
            obtain ⟨U, V, an, cn, ag, cg, L⟩ := L'.out
            obtain ⟨gv, cs, A⟩ := L.rd
            have AK := Lib.hid (rask_any A.blk (by omega))
            unfold askV at AK
            have Lh := Lib.hid L
            have TB := Lib.hid A.blk
            clear A
            go_wp2_with fail
            refine AK.out.mono ?_
            rintro e w4 ⟨rfl, b4⟩
            have L4 := Lib.hid (Lh.out.next b4)
            have T4 := Lib.hid (TB.out.below b4)
            clear b4 AK TB Lh
            obtain ⟨W5, hW5, X5, B5⟩ : ∃ W5, W5 = w4.alloc (.cells #[.int .i64 s'.to, .string ⟨#[]⟩, .string nm, .int .i64 s'.at_, .int .i64 most] 63) ∧ Blk W5 w4.heap.size 63 #[.int .i64 s'.to, .string ⟨#[]⟩, .string nm, .int .i64 s'.at_, .int .i64 most] ∧ Below w4.heap.size w4 W5 := ⟨_, rfl, Blk.new _ _ _, (Below.refl _ _).alloc (Nat.le_refl _) _⟩
            have L5 := Lib.hid (L4.out.next B5)
            have T5 := Lib.hid (T4.out.below B5)
            have HW5 := Lib.hid hW5
            have x0 := fun d os => cell_regrown (d := d) (os := os) (X5.cell 0 : W5.cell? ⟨w4.heap.size, 0, none⟩ = some (.int .i64 s'.to))
            have x1 := fun d os => cell_regrown (d := d) (os := os) (X5.cell 1 : W5.cell? ⟨w4.heap.size, 1, none⟩ = some (.string ⟨#[]⟩))
            have x2 := fun d os => cell_regrown (d := d) (os := os) (X5.cell 2 : W5.cell? ⟨w4.heap.size, 2, none⟩ = some (.string nm))
            have x3 := fun d os => cell_regrown (d := d) (os := os) (X5.cell 3 : W5.cell? ⟨w4.heap.size, 3, none⟩ = some (.int .i64 s'.at_))
            have x4 := fun d os => cell_regrown (d := d) (os := os) (X5.cell 4 : W5.cell? ⟨w4.heap.size, 4, none⟩ = some (.int .i64 most))
            have b10 : W5.cell? ⟨bx, 1, none⟩ = some (.int .i64 s'.to) := L5.out.bk.cell 1
            have b1 := fun d os => cell_regrown (d := d) (os := os) b10
            clear b10
            have b20 : W5.cell? ⟨bx, 2, none⟩ = some (.int .i64 s'.at_) := L5.out.bk.cell 2
            have b2 := fun d os => cell_regrown (d := d) (os := os) b20
            clear b20
            have b30 : W5.cell? ⟨bx, 3, none⟩ = some (.int .i64 s'.gone) := L5.out.bk.cell 3
            have b3 := fun d os => cell_regrown (d := d) (os := os) b30
            clear b30
            have C1 := Lib.hid (fun d os => Calls.regrown_of (d := d) (os := os) ((rat_any (T5.out.below (below_regrown W5 d os))).mono (fun e w' ⟨he, hw⟩ => (⟨he, hw ▸ Below.refl _ _⟩ : e = Ending.returned (.int .i64 s'.at_) ∧ Below _ _ w'))))
            have C2 := Lib.hid (fun d os => Calls.regrown_of (d := d) (os := os) ((rgone_any (T5.out.below (below_regrown W5 d os))).mono (fun e w' ⟨he, hw⟩ => (⟨he, hw ▸ Below.refl _ _⟩ : e = Ending.returned (.int .i64 s'.gone) ∧ Below _ _ w'))))
            have hb63 : ∀ w, (Instr.build 63 #[(0, .int .i64 s'.to), (2, .string nm), (3, .int .i64 s'.at_), (4, .int .i64 most)]).run Try.prog w = .ok (.agg #[.int .i64 s'.to, .string ⟨#[]⟩, .string nm, .int .i64 s'.at_, .int .i64 most]) w := fun w => bld63 _ _ _ _ w
            clear L4 T4 X5 B5 hW5
            go_wp2_with fail
            rw [← HW5.out]
            generalize w4.heap.size = y4 at *
            refine wp_region_quiet_below mixed (by kernel_rfl) ?_
            repeat (quiet_step (first | (with_reducible exact C1.out _ _) | (with_reducible exact C2.out _ _)))
            refine wpQuiet_nil ?_
            intro _ hw'
            obtain ⟨⟨dq, osq⟩, hw''⟩ := hw'
            subst hw''
            have L6 := Lib.hid (L5.out.next (below_regrown W5 dq osq))
            clear x0 x1 x2 x3 x4 b1 b2 b3 C1 C2 hb63 L5 T5 HW5
            generalize Go.Sort.grow (redrawn W5 dq) osq = w6 at *
            have GT := Lib.hid (rgot_any L6.out.rd OK'.out.sm (by have := OK'.out.n; omega))
            unfold Glst at GT
            go_wp2_with fail
            refine GT.out.mono ?_
            rintro e w7 ⟨a7, c7, rfl, G7, b7⟩
            have L7 := Lib.hid (L6.out.next b7)
            have G7 := Lib.hid G7
            have b5 : w7.cell? ⟨bx, 5, none⟩ = some (.slice ag s'.LG.length cg) := L7.out.bk.cell 5
            clear b7 GT L6
            obtain ⟨nn, hnn⟩ : ∃ nn, nn = s'.LG.length := ⟨_, rfl⟩
            have HNN := Lib.hid hnn
            have hnnI : (nn : Int) ≤ 4020 := by have := OK'.out.n; omega
            rw [← hnn] at b5
            rw [show (Value.slice a7 s'.LG.length c7) = Value.slice a7 nn c7 by rw [hnn]]
            clear hnn
            go_wp2_with fail
            have I0 : Hid (LRa W w7 t bx nodes nm most U V s' s' an cn ag cg ∧ Grw w7 a7 s'.LG) := Lib.hid ⟨L7.out, G7.out⟩
            clear L7 G7 b5
            go_loopw [16] (fun i wq => ∃ (k : Nat), i = .int .i64 k ∧ k ≤ nn ∧ Hid (LRa W wq t bx nodes nm most U V s' s' an cn ag cg ∧ Grw wq a7 s'.LG)) (fun i wq => nn - (intOf i).toNat)
            case atStart => exact ⟨0, rfl, Nat.zero_le _, I0⟩
            case round =>
              obtain ⟨k, rfl, hk, hI⟩ := hrel
              clear I0
              by_cases hkn : k < nn
              · have kI : (k : Int) < (nn : Int) := by omega
                have kB := decide_eq_true kI
                have hkL : k < s'.LG.length := by rw [← HNN.out]; exact hkn
                obtain ⟨y, hy⟩ : ∃ y, y = s'.LG[k]'hkL := ⟨_, rfl⟩
                obtain ⟨g7, q7, cq7, rfl, hg7, p0, p1, n7⟩ := hI.out.2 k hkL
                obtain ⟨g1, o1, rfl, hg1, r1⟩ := hI.out.1.dc.n.1 k (by rw [List.length_map]; exact hkL)
                obtain ⟨g2, o2, q2, cq2, rfl, hg2, hv2, r2, n2⟩ := hI.out.1.dc.g k (by rw [List.length_map]; exact hkL)
                have e1 : (s'.LG.map (·.1))[k]'(by rw [List.length_map]; exact hkL) = y.1 := by rw [hy]; simp
                have e2 : (s'.LG.map (·.2))[k]'(by rw [List.length_map]; exact hkL) = y.2 := by rw [hy]; simp
                rw [e1] at r1
                rw [e2] at r2 n2
                rw [← hy] at p0 p1 n7
                have hysm := OK'.out.sm y (by rw [hy]; exact List.getElem_mem hkL)
                have c40 : wr.cell? ⟨bx, 4, none⟩ = some (.slice (some ⟨g1, o1, none⟩) s'.LG.length cn) := hI.out.1.bk.cell 4
                have c50 : wr.cell? ⟨bx, 5, none⟩ = some (.slice (some ⟨g2, o2, none⟩) s'.LG.length cg) := hI.out.1.bk.cell 5
                rw [← HNN.out] at c40 c50
                obtain ⟨yn, ys⟩ := y
                simp only at p0 p1 n7 r1 r2 n2 hysm
                have C1 := Lib.hid (fun d os => Calls.regrown_of (d := d) (os := os) (order_same (w := Go.Sort.grow (redrawn wr d) os) cq7 cq2 (n7.next (below_regrown wr d os)) (n2.1.next (below_regrown wr d os)) (by omega)))
                have x0 := fun d os => cell_regrown p0 d os
                have x1 := fun d os => cell_regrown p1 d os
                have x2 := fun d os => cell_regrown r1 d os
                have x3 := fun d os => cell_regrown r2 d os
                have x4 := fun d os => cell_regrown c40 d os
                have x5 := fun d os => cell_regrown c50 d os
                clear e1 e2 hy n7 n2 hysm hg7 hg1 hg2 hv2
                generalize ys.length = my at *
                go_upto_region 29 with fail
                clear p0 p1 r1 r2 c40 c50
                refine wp_region_quiet_below mixed (by kernel_rfl) ?_
                repeat (quiet_step (first | (with_reducible exact C1.out _ _)))
                refine wpQuiet_nil ?_
                intro _ hw'
                obtain ⟨⟨dq, osq⟩, hw''⟩ := hw'
                subst hw''
                have I9 : Hid (LRa W (Go.Sort.grow (redrawn wr dq) osq) t bx nodes nm most U V s' s' (some ⟨g1, o1, none⟩) cn (some ⟨g2, o2, none⟩) cg ∧ Grw (Go.Sort.grow (redrawn wr dq) osq) (some ⟨g7, 0, none⟩) s'.LG) := Lib.hid ⟨hI.out.1.next (below_regrown wr dq osq), hI.out.2.next (below_regrown wr dq osq)⟩
                clear x0 x1 x2 x3 x4 x5 C1 hI
                go_wp2_with fail
                go_roundw
                case rel => exact ⟨k + 1, by go_num, by omega, I9⟩
                case measure => simp [intOf]; omega
              · obtain rfl : k = nn := by omega
                have kI : ¬ (k : Int) < (k : Int) := by omega
                have F9 : Hid (LJ W t bx nodes nm most (j + 1) wr) := Lib.hid ⟨s', OK'.out, U, V, an, cn, ag, cg, hI.out.1⟩
                clear hI
                go_wp2_with fail
                go_roundw
                case rel => exact ⟨j + 1, by go_num, by omega, by omega, F9⟩
                case measure => simp [intOf]; omega
        · have mI : (20 : Int) < (m : Int) := by omega
          have mB := decide_eq_true mI
          have NX := Lib.hid (fun o => hR.out.next ((Below.refl wr.heap.size wr).alloc (Nat.le_refl _) o))
          clear hR
          go_wp2_with fail
          go_roundw
          case rel => exact ⟨j + 1, by go_num, by omega, by omega, Lib.hid (NX.out _).more⟩
          case measure => simp [intOf]; omega
      · have kI : ¬ (j : Int) < 200 := by omega
        have kB := decide_eq_false kI
        have F9 := Lib.hid (FIN.out _ _ _ _ hR.out)
        clear hR
        go_wp2_with fail
        go_ret
        exact ⟨rfl, F9.out⟩
    · obtain rfl : j = n := by omega
      have jI : ¬ (j : Int) < (j : Int) := by omega
      have F9 := Lib.hid (FIN.out _ _ _ _ hR.out)
      clear hR
      go_wp2_with fail
      go_ret
      exact ⟨rfl, F9.out⟩
theorem reads_law (nodes most : Int) (nm : ByteArray) (a : Option Addr) (c : Nat) (R : List AcT) (W : World) (hk : nm.size ≤ 9223372036854775807) (hx : AcsT W a R) (hS : ∀ x ∈ R, x.sm) (hl : R.length ≤ 9223372036854775807) :
    Calls Try.prog 4 #[.agg #[.int .i64 nodes, .string nm], .int .i64 most, .slice a R.length c] W fun e w' => e = .returned (.bool true) ∧ Below W.heap.size W w' := by
  cases h : mayR nodes nm most
  · exact reads_no nodes most nm _ hk h W
  · exact reads_yes nodes most nm a c R W h hx hS hl
end Go.Proofs.Ytbghjcfepjbppaa
