/-
  THE WALK OF the law's Track.
-/
import Derived.Test.YtifdljdnpdefgaaCnv
namespace Go.Proofs.Ytifdljdnpdefgaa
open Go.RowKit
set_option maxHeartbeats 2000000 in
set_option maxRecDepth 100000 in
theorem cnv_rc (a b c : Int) (p : Option Addr) (cp : Nat) (L : List RC) (w : World) (hl : L.length ≤ 1000) (hx : RCs w p L) (hp : Pks w L) :
    Calls Try.prog 10 #[trackV a b c (.slice p L.length cp)] w (Cnvd w a b c (L.map RC.r)) := by
  have HX := Lib.hid hx
  have HPK := Lib.hid hp
  clear hx hp
  obtain ⟨w3, hw3, I0, B3, hs3⟩ : ∃ w3, w3 = ((w.alloc (.cells #[.int .i64 a, .int .i64 b, .int .i64 c, .slice p L.length cp] 24)).alloc (.cells #[.int .i64 0, .int .i64 0, .int .i64 0, .slice none 0 0] 34)).alloc (.cells #[.int .i64 a, .int .i64 b, .int .i64 c, .slice none 0 0] 34) ∧
      CnI w w3 w.heap.size (w.heap.size + 3) a b c (.slice p L.length cp) L 0 (.slice none 0 0) ∧ Below w.heap.size w w3 ∧ w3.heap.size = w.heap.size + 3 := by
    have B1 := (Below.refl w.heap.size w).alloc (Nat.le_refl _) (.cells #[.int .i64 a, .int .i64 b, .int .i64 c, .slice p L.length cp] 24)
    have e1 : Blk (w.alloc (.cells #[.int .i64 a, .int .i64 b, .int .i64 c, .slice p L.length cp] 24)) w.heap.size 24 #[.int .i64 a, .int .i64 b, .int .i64 c, .slice p L.length cp] := heap_alloc_new w _
    have h1 : (w.alloc (.cells #[.int .i64 a, .int .i64 b, .int .i64 c, .slice p L.length cp] 24)).heap.size = w.heap.size + 1 := by simp
    generalize w.alloc (.cells #[.int .i64 a, .int .i64 b, .int .i64 c, .slice p L.length cp] 24) = w1 at *
    have b2 := (Below.refl w1.heap.size w1).alloc (Nat.le_refl _) (.cells #[.int .i64 0, .int .i64 0, .int .i64 0, .slice none 0 0] 34)
    have e2 : Blk (w1.alloc (.cells #[.int .i64 0, .int .i64 0, .int .i64 0, .slice none 0 0] 34)) w1.heap.size 34 #[.int .i64 0, .int .i64 0, .int .i64 0, .slice none 0 0] := heap_alloc_new w1 _
    have h2 : (w1.alloc (.cells #[.int .i64 0, .int .i64 0, .int .i64 0, .slice none 0 0] 34)).heap.size = w1.heap.size + 1 := by simp
    have e1' := e1.below b2 e1.lt
    have B2 := B1.trans (b2.mono (by omega))
    generalize w1.alloc (.cells #[.int .i64 0, .int .i64 0, .int .i64 0, .slice none 0 0] 34) = w2 at *
    have b3 := (Below.refl w2.heap.size w2).alloc (Nat.le_refl _) (.cells #[.int .i64 a, .int .i64 b, .int .i64 c, .slice none 0 0] 34)
    have e3 : Blk (w2.alloc (.cells #[.int .i64 a, .int .i64 b, .int .i64 c, .slice none 0 0] 34)) w2.heap.size 34 #[.int .i64 a, .int .i64 b, .int .i64 c, .slice none 0 0] := heap_alloc_new w2 _
    refine ⟨_, rfl, ⟨e1'.below b3 e1'.lt, ?_, ?_, World.ownsRow_nil _ _ _ _, B2.trans (b3.mono (by omega))⟩, B2.trans (b3.mono (by omega)), by simp; omega⟩
    · have := e2.below b3 e2.lt; rw [h1] at this; exact this
    · rw [h2, h1] at e3; exact e3
  generalize hn : L.length = n at *
  have HN := Lib.hid hn
  have W3 := Lib.hid hw3
  have I0h := Lib.hid I0
  have B3h := Lib.hid B3
  clear hn hw3 I0 B3
  generalize hy : w.heap.size = Y at *
  obtain ⟨i51, hi, hz0, hz1, hz2⟩ := info_parts info51
  unfold trackV
  go_enter Try.func10, Try.ntmps10
  go_wp2_with fail
  rw [← W3.out]
  go_loopw [4] (fun i wq => ∃ (j : Nat) (u : Value), i = .int .i64 j ∧ j ≤ n ∧ CnI w wq Y (Y + 3) a b c (.slice p n cp) L j u ∧ Y + 3 ≤ wq.heap.size) (fun i _ => n - (intOf i).toNat)
  case atStart => exact ⟨0, .slice none 0 0, rfl, Nat.zero_le _, I0h.out, by omega⟩
  case round =>
    obtain ⟨j, u, rfl, hj, hI, hsz⟩ := hrel
    have HI := Lib.hid hI
    obtain ⟨ua, uc, hu⟩ := rc_form hI.o
    subst hu
    have e0 : wr.cell? ⟨Y, 0, none⟩ = some (.int .i64 a) := hI.e.cell 0
    have e4 : wr.cell? ⟨Y, 3, none⟩ = some (.slice p n cp) := hI.e.cell 3
    have x0 : wr.cell? ⟨Y + 1 + 1, 0, none⟩ = some (.int .i64 a) := hI.x.cell 0
    have x1 : wr.cell? ⟨Y + 1 + 1, 1, none⟩ = some (.int .i64 b) := hI.x.cell 1
    have x2 : wr.cell? ⟨Y + 1 + 1, 2, none⟩ = some (.int .i64 c) := hI.x.cell 2
    have x4 : wr.cell? ⟨Y + 1 + 1, 3, none⟩ = some (.slice ua j uc) := hI.x.cell 3
    clear hI
    by_cases hjn : j < n
    · have hjL : j < L.length := by rw [HN.out]; exact hjn
      obtain ⟨g0, o, rfl, hg0, c0, c1, c2, c3, c4⟩ := HX.out j hjL
      have hgb : g0 < Y := by rw [← hy]; exact hg0
      rw [← HI.out.b.cell (p := ⟨g0, _, none⟩) hgb] at c0 c1 c2 c3 c4
      have PU := Lib.hid (fun W0 w4 g cap => HI.out.push (W0 := W0) (w4 := w4) (g := g) (cap := cap) (by omega) hjL)
      unfold encR at PU
      generalize L[j] = x at *
      obtain ⟨⟨xb, xt, xs, xn, xP⟩, xq, xc⟩ := x
      simp only at c0 c1 c2 c3 c4 PU
      generalize xP.length = m at *
      have H1C : Hid (∀ u ∈ [Value.int .i64 xb, .int .i64 xt, .int .i64 xs, .int .u64 xn, .slice xq m xc], u.oneCell' = true) := Lib.hid (by
        intro u hu
        simp at hu
        rcases hu with rfl | rfl | rfl | rfl | rfl <;> rfl)
      have lx : Y + 1 + 1 < wr.heap.size := by omega
      have y4 : ∀ o, (wr.alloc o).cell? ⟨Y + 1 + 1, 3, none⟩ = some (.slice ua j uc) := fun o => by rw [World.cell?_alloc_lt _ _ _ lx]; exact x4
      clear e0 x0 x1 x2
      go_upto_block 1 with fail
      go_cut [19] (fun s19 wx => ∃ v5, CnI w wx Y (Y + 3) a b c (.slice (some ⟨g0, o, none⟩) n cp) L (j + 1) v5 ∧ Y + 3 ≤ wx.heap.size)
      case first =>
        go_upto_region 5 with fail
        go_region_law
          ((refine step_append_lies _ rfl (.tmp 20) (.tmp 26) 32 rfl (Y + 3) 51 i51 (.agg #[.int .i64 0, .int .i64 0, .int .i64 0, .int .u64 0, .slice none 0 0]) 5 56 Try.underlying32 hi hz0 hz1 hz2 rfl (by decide) (.slice ua j uc) j (cellsR (L.take j)) rfl (World.ownsRow.alloc HI.out.o _) ⟨wr.heap.size, 0, none⟩ 1 1 [.int .i64 xb, .int .i64 xt, .int .i64 xs, .int .u64 xn, .slice xq m xc] rfl rfl (World.news_of_block (cs := #[.int .i64 xb, .int .i64 xt, .int .i64 xs, .int .u64 xn, .slice xq m xc]) (heap_alloc_new wr _)) H1C.out (by decide) (by unfold maxLen; omega) (by omega) (by show Y + 3 ≤ (wr.alloc _).heap.size; simp; omega) _ rfl ?_; intro g4 cap4 w4 ho4 hg4 hat4 _; obtain ⟨I4, f4, q4⟩ := PU.out _ w4 g4 cap4 (((Below.refl _ wr).drew).alloc (Nat.le_refl _) _) ho4 hg4; have G5 := World.ownsRow.lt I4.o g4 rfl; have I4h := Lib.hid I4; have hzz : Y + 3 ≤ (w4.setCell ⟨Y + 1 + 1, 3, none⟩ (.slice (some ⟨g4, 0, none⟩) (j + 1) cap4)).heap.size := Nat.le_trans G5.1 (Nat.le_of_lt G5.2); clear I4 ho4 hg4 hat4 G5))
        all_goals (go_wp2_with fail; go_meet; exact ⟨_, I4h.out, hzz⟩)
      case rest =>
        obtain ⟨v5, I5, hz5⟩ := hcut
        have I5h := Lib.hid I5
        clear I5 H1C PU c0 c1 c2 c3 c4 e4 x4 y4 HI I0h W3 HX B3h
        go_wp2_with fail
        go_roundw
        case rel => exact ⟨j + 1, _, by go_num, by omega, I5h.out, hz5⟩
        case measure => simp [intOf]; omega
    · obtain rfl : j = n := by omega
      have z0 : wr.cell? ⟨Y + 1, 0, none⟩ = some (.int .i64 0) := HI.out.z.cell 0
      have z1 : wr.cell? ⟨Y + 1, 1, none⟩ = some (.int .i64 0) := HI.out.z.cell 1
      have z2 : wr.cell? ⟨Y + 1, 2, none⟩ = some (.int .i64 0) := HI.out.z.cell 2
      have z3 : wr.cell? ⟨Y + 1, 3, none⟩ = some (.slice none 0 0) := HI.out.z.cell 3
      have f0 := HI.out.z.free 0
      have f1 := HI.out.z.free 1
      have f2 := HI.out.z.free 2
      have f3 := HI.out.z.free 3
      obtain ⟨W5, hW5, R5, B5, L5⟩ := cn_end HI.out HN.out.symm
      have R5h := Lib.hid R5
      have B5h := Lib.hid B5
      have L5h := Lib.hid L5
      have W5h := Lib.hid hW5
      clear hW5 R5 B5 L5
      go_wp2_with fail
      rw [← W5h.out]
      have q0 : W5.cell? ⟨Y + 1, 0, none⟩ = some (.int .i64 a) := R5h.out.cell 0
      have q1 : W5.cell? ⟨Y + 1, 1, none⟩ = some (.int .i64 b) := R5h.out.cell 1
      have q2 : W5.cell? ⟨Y + 1, 2, none⟩ = some (.int .i64 c) := R5h.out.cell 2
      have q3 : W5.cell? ⟨Y + 1, 3, none⟩ = some (.slice ua j uc) := R5h.out.cell 3
      refine bodyPost_ret (by simp [results, Try.results10, go_sem, q0, q1, q2, q3]; try rfl) rfl ?_
      have B6 : Below w.heap.size w W5 := hy ▸ B5h.out
      exact ⟨ua, uc, by rw [List.length_map, HN.out]; rfl, rns_of L5h.out (HPK.out.below B6), B6⟩
theorem cnv_any (a b c : Int) (p : Option Addr) (cp : Nat) (L : List Rn) (w : World) (hl : L.length ≤ 1000) (hx : Rns w p L) :
    Calls Try.prog 10 #[trackV a b c (.slice p L.length cp)] w (Cnvd w a b c L) := by
  obtain ⟨M, rfl, h1, h2⟩ := rcs_of hx
  rw [List.length_map] at hl ⊢
  exact cnv_rc a b c p cp M w hl h1 h2
end Go.Proofs.Ytifdljdnpdefgaa
