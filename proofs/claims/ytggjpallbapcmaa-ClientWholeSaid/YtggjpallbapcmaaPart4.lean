/-
  WHAT THE ROWS REST ON, part 4: Chk2 Chk3 Num2.
-/
import Derived.Deep.QuietTactic
import Derived.BigQuiet
import Derived.WalkSmall
import Derived.RegionTactic
import Derived.BigRegion
import Derived.Lib.SliceRun
import Derived.Test.YtggjpallbapcmaaPart3
/-
  FIELDS THAT MAY BE: event.fields.
-/
namespace Go.Proofs.Ytggjpallbapcmaa
open Go.RowKit
def prevN (L : List Fld) (i : Nat) : ByteArray := ((L[i - 1]?).map (·.nm)).getD ⟨#[]⟩
def okAt (L : List Fld) (i : Nat) : Bool :=
  match L[i]? with
  | none => true
  | some x => (decide (i = 0) || ltS (prevN L i) x.nm) && (wordB x.nm && mayB x.v)
def okTo (L : List Fld) (j : Nat) : Bool := (List.range j).all (okAt L)
def fieldsB (L : List Fld) : Bool := decide (L.length ≤ 8) && okTo L L.length
theorem okTo_succ (L : List Fld) (j : Nat) : okTo L (j + 1) = (okTo L j && okAt L j) := by simp [okTo, List.range_succ]
theorem okTo_false {L : List Fld} {j n : Nat} (hj : j < n) (h : okAt L j = false) : okTo L n = false := by
  unfold okTo
  rw [List.all_eq_false]
  exact ⟨j, List.mem_range.2 hj, by rw [h]; decide⟩
theorem okAt_zero {L : List Fld} (h : 0 < L.length) : okAt L 0 = (wordB L[0].nm && mayB L[0].v) := by
  unfold okAt
  rw [List.getElem?_eq_getElem h]
  simp
theorem okAt_succ {L : List Fld} {i : Nat} (h : i + 1 < L.length) : okAt L (i + 1) = (ltS (L[i]'(by omega)).nm L[i + 1].nm && (wordB L[i + 1].nm && mayB L[i + 1].v)) := by
  unfold okAt prevN
  rw [List.getElem?_eq_getElem h, Nat.add_sub_cancel, List.getElem?_eq_getElem (show i < L.length by omega)]
  simp
set_option maxHeartbeats 1000000 in
set_option maxRecDepth 100000 in
theorem fields_any (p : Option Addr) (cp : Nat) (L : List Fld) (w : World) (hl : L.length ≤ 100) (hx : Flds w p L) (hS : ∀ x ∈ L, x.nm.size ≤ 9223372036854775807 ∧ x.v.s.size ≤ 9223372036854775807) :
    Calls Try.prog 71 #[.slice p L.length cp] w fun e w' => e = .returned (.bool (fieldsB L)) ∧ Below w.heap.size w w' := by
  unfold fieldsB
  by_cases h8 : L.length ≤ 8
  · have h8' : ¬ (8 : Int) < (L.length : Int) := by omega
    rw [decide_eq_true h8]
    have X2h := Lib.hid hx
    have HS := Lib.hid hS
    generalize hA : okTo L L.length = A
    have HA := Lib.hid hA
    generalize hn : L.length = n at *
    have HN := Lib.hid hn
    have BR := Lib.hid (Below.refl w.heap.size w)
    clear hn hx hS hA
    generalize hy : w.heap.size = Y at *
    rw [Bool.true_and]
    go_enter Try.func71, Try.ntmps71
    go_wp2_with fail
    go_loopw [11] (fun i wq => ∃ j : Nat, i = .int .i64 j ∧ j ≤ n ∧ Hid (okTo L j = true) ∧ Below Y w wq) (fun i _ => n - (intOf i).toNat)
    case atStart => exact ⟨0, rfl, Nat.zero_le _, Lib.hid rfl, BR.out⟩
    case round =>
      obtain ⟨j, rfl, hj, hf, hB⟩ := hrel
      have HB := Lib.hid hB
      clear hB
      by_cases hjn : j < n
      · have hjL : j < L.length := by rw [HN.out]; exact hjn
        obtain ⟨g0, o, rfl, hg0, c0, c1, c2, c3, c4⟩ := X2h.out j hjL
        have hgY : g0 < Y := by rw [← hy]; exact hg0
        rw [← HB.out.cell (p := ⟨g0, _, none⟩) hgY] at c0 c1 c2 c3 c4
        have SZ := Lib.hid (HS.out L[j] (List.getElem_mem hjL))
        have OT := Lib.hid (okTo_succ L j)
        have OF := Lib.hid (fun h => HA.out.symm.trans (okTo_false (L := L) hjn h))
        rcases j with _ | i
        · have E0 := Lib.hid (okAt_zero hjL)
          generalize L[0] = x at *
          obtain ⟨xn, xk, xm, xf, xs⟩ := x
          simp only at c0 c1 c2 c3 c4 E0 SZ
          have WA := word_any xn SZ.out.1
          have VA := value_any ⟨xk, xm, xf, xs⟩ SZ.out.2
          unfold Val.val at VA
          simp only at VA
          obtain ⟨w3, hw3, N3, B3⟩ : ∃ w3, w3 = wr.alloc (.cells #[.string xn, .int .i64 xk, .int .i64 xm, .float .f64 xf, .string xs] 105) ∧ Blk w3 wr.heap.size 105 #[.string xn, .int .i64 xk, .int .i64 xm, .float .f64 xf, .string xs] ∧ Below wr.heap.size wr w3 :=
            ⟨_, rfl, heap_alloc_new wr _, (Below.refl _ wr).alloc (Nat.le_refl _) _⟩
          have W3 := Lib.hid hw3
          have B3h : Hid (Below Y w w3) := Lib.hid (HB.out.trans (B3.mono (by have := HB.out.size; omega)))
          have N3h := Lib.hid N3
          clear hw3 N3 B3
          simp only [Nat.zero_mul, Nat.add_zero] at c0 c1 c2 c3 c4
          rw [show ((0 : Nat) : Int) = 0 from rfl]
          cases hw : wordB xn
          · have R := Lib.hid (show false = A from (OF.out (E0.out.trans (by rw [hw]; rfl))).symm)
            rw [hw] at WA
            clear hw
            have WAh := Lib.hid WA
            clear VA WA
            go_wp2_with fail
            rw [← W3.out]
            go_quiet (fail)
            have N5 : Blk (w3.drewN nq) wr.heap.size 105 #[.string xn, .int .i64 xk, .int .i64 xm, .float .f64 xf, .string xs] := N3h.out
            have B5h : Hid (Below Y w (w3.drewN nq)) := Lib.hid (below_drewN B3h.out nq)
            generalize w3.drewN nq = w5 at *
            have m0 : w5.cell? ⟨wr.heap.size, 0, none⟩ = some (.string xn) := N5.cell 0
            have m1 : w5.cell? ⟨wr.heap.size, 1, none⟩ = some (.int .i64 xk) := N5.cell 1
            have m2 : w5.cell? ⟨wr.heap.size, 2, none⟩ = some (.int .i64 xm) := N5.cell 2
            have m3 : w5.cell? ⟨wr.heap.size, 3, none⟩ = some (.float .f64 xf) := N5.cell 3
            have m4 : w5.cell? ⟨wr.heap.size, 4, none⟩ = some (.string xs) := N5.cell 4
            clear N5
            go_wp2_with fail
            refine (WAh.out _).mono ?_
            rintro e w6 ⟨rfl, rfl⟩
            go_wp2_with fail
            go_ret
            exact ⟨ret_bool R.out, hy ▸ B5h.out⟩
          · cases hv : mayB ⟨xk, xm, xf, xs⟩
            · have R := Lib.hid (show false = A from (OF.out (E0.out.trans (by rw [hw, hv]; rfl))).symm)
              rw [hw] at WA
              rw [hv] at VA
              clear hw hv
              have WAh := Lib.hid WA
              have VAh := Lib.hid VA
              clear VA WA
              go_wp2_with fail
              rw [← W3.out]
              go_quiet (fail)
              have N5 : Blk (w3.drewN nq) wr.heap.size 105 #[.string xn, .int .i64 xk, .int .i64 xm, .float .f64 xf, .string xs] := N3h.out
              have B5h : Hid (Below Y w (w3.drewN nq)) := Lib.hid (below_drewN B3h.out nq)
              generalize w3.drewN nq = w5 at *
              have m0 : w5.cell? ⟨wr.heap.size, 0, none⟩ = some (.string xn) := N5.cell 0
              have m1 : w5.cell? ⟨wr.heap.size, 1, none⟩ = some (.int .i64 xk) := N5.cell 1
              have m2 : w5.cell? ⟨wr.heap.size, 2, none⟩ = some (.int .i64 xm) := N5.cell 2
              have m3 : w5.cell? ⟨wr.heap.size, 3, none⟩ = some (.float .f64 xf) := N5.cell 3
              have m4 : w5.cell? ⟨wr.heap.size, 4, none⟩ = some (.string xs) := N5.cell 4
              clear N5
              go_wp2_with fail
              refine (WAh.out _).mono ?_
              rintro e w6 ⟨rfl, rfl⟩
              go_wp2_with fail
              refine (VAh.out _).mono ?_
              rintro e w7 ⟨rfl, b7⟩
              have B7h : Hid (Below Y w w7) := Lib.hid (B5h.out.trans (b7.mono (by have := B5h.out.size; omega)))
              clear b7
              go_wp2_with fail
              go_ret
              exact ⟨ret_bool R.out, hy ▸ B7h.out⟩
            · have N1 : Hid (okTo L (0 + 1) = true) := Lib.hid (by rw [OT.out, hf.out, E0.out, hw, hv]; rfl)
              rw [hw] at WA
              rw [hv] at VA
              clear hw hv
              have WAh := Lib.hid WA
              have VAh := Lib.hid VA
              clear VA WA
              go_wp2_with fail
              rw [← W3.out]
              go_quiet (fail)
              have N5 : Blk (w3.drewN nq) wr.heap.size 105 #[.string xn, .int .i64 xk, .int .i64 xm, .float .f64 xf, .string xs] := N3h.out
              have B5h : Hid (Below Y w (w3.drewN nq)) := Lib.hid (below_drewN B3h.out nq)
              generalize w3.drewN nq = w5 at *
              have m0 : w5.cell? ⟨wr.heap.size, 0, none⟩ = some (.string xn) := N5.cell 0
              have m1 : w5.cell? ⟨wr.heap.size, 1, none⟩ = some (.int .i64 xk) := N5.cell 1
              have m2 : w5.cell? ⟨wr.heap.size, 2, none⟩ = some (.int .i64 xm) := N5.cell 2
              have m3 : w5.cell? ⟨wr.heap.size, 3, none⟩ = some (.float .f64 xf) := N5.cell 3
              have m4 : w5.cell? ⟨wr.heap.size, 4, none⟩ = some (.string xs) := N5.cell 4
              clear N5
              go_wp2_with fail
              refine (WAh.out _).mono ?_
              rintro e w6 ⟨rfl, rfl⟩
              go_wp2_with fail
              refine (VAh.out _).mono ?_
              rintro e w7 ⟨rfl, b7⟩
              have B7h : Hid (Below Y w w7) := Lib.hid (B5h.out.trans (b7.mono (by have := B5h.out.size; omega)))
              clear b7
              go_wp2_with fail
              go_roundw
              case rel => exact ⟨0 + 1, by go_num, by omega, N1, B7h.out⟩
              case measure => simp [intOf]; omega
        · have hiL : i < L.length := by omega
          have hin : i < n := by omega
          obtain ⟨g0', o', he, _, d0, _, _, _, _⟩ := X2h.out i hiL
          obtain ⟨rfl, rfl⟩ : g0' = g0 ∧ o' = o := by simp only [Option.some.injEq, Addr.mk.injEq, and_true] at he; exact ⟨he.1.symm, he.2.symm⟩
          clear he
          rw [← HB.out.cell (p := ⟨g0', _, none⟩) hgY] at d0
          have E0 := Lib.hid (okAt_succ hjL)
          generalize L[i + 1] = x at *
          generalize L[i] = y at *
          obtain ⟨xn, xk, xm, xf, xs⟩ := x
          obtain ⟨yn, yk, ym, yf, ys⟩ := y
          simp only at c0 c1 c2 c3 c4 E0 SZ d0
          have WA := word_any xn SZ.out.1
          have VA := value_any ⟨xk, xm, xf, xs⟩ SZ.out.2
          unfold Val.val at VA
          simp only at VA
          obtain ⟨w3, hw3, N3, B3, d3⟩ : ∃ w3, w3 = wr.alloc (.cells #[.string xn, .int .i64 xk, .int .i64 xm, .float .f64 xf, .string xs] 105) ∧ Blk w3 wr.heap.size 105 #[.string xn, .int .i64 xk, .int .i64 xm, .float .f64 xf, .string xs] ∧ Below wr.heap.size wr w3 ∧ w3.cell? ⟨g0', o' + i * 5, none⟩ = some (.string yn) :=
            ⟨_, rfl, heap_alloc_new wr _, (Below.refl _ wr).alloc (Nat.le_refl _) _, by rw [World.cell?_alloc_lt _ _ _ (World.block_lt_of_cell? _ _ d0)]; exact d0⟩
          have W3 := Lib.hid hw3
          have B3h : Hid (Below Y w w3) := Lib.hid (HB.out.trans (B3.mono (by have := HB.out.size; omega)))
          have N3h := Lib.hid N3
          have n3 : w3.cell? ⟨wr.heap.size, 0, none⟩ = some (.string xn) := N3.cell 0
          have z1 : (((i + 1 : Nat) : Int) == 0) = false := by simp; omega
          have z2 : (((i : Int) + 1) == 0) = false := by simp; omega
          have hwp : IntKind.i64.wrap ((i : Int) + 1 - 1) = (i : Int) := by rw [Int.add_sub_cancel]; exact IntWalk.i64_in _ (by omega)
          have hwq : IntKind.i64.wrap (((i + 1 : Nat) : Int) - 1) = (i : Int) := by rw [show (((i + 1 : Nat) : Int) - 1) = (i : Int) by omega]; exact IntWalk.i64_in _ (by omega)
          clear hw3 N3 B3 d0
          cases hlt : ltS yn xn
          · have R := Lib.hid (show false = A from (OF.out (E0.out.trans (by rw [hlt]; rfl))).symm)
            unfold ltS at hlt
            clear VA WA
            go_wp2_with fail
            rw [← W3.out]
            go_quiet (fail)
            have B5h : Hid (Below Y w (w3.drewN nq)) := Lib.hid (below_drewN B3h.out nq)
            generalize w3.drewN nq = w5 at *
            go_wp2_with fail
            go_ret
            exact ⟨ret_bool R.out, hy ▸ B5h.out⟩
          · have hlt' := hlt
            unfold ltS at hlt'
            cases hw : wordB xn
            · have R := Lib.hid (show false = A from (OF.out (E0.out.trans (by rw [hw]; cases ltS yn xn <;> rfl))).symm)
              rw [hw] at WA
              clear hw
              have WAh := Lib.hid WA
              clear VA WA
              go_wp2_with fail
              rw [← W3.out]
              go_quiet (fail)
              have N5 : Blk (w3.drewN nq) wr.heap.size 105 #[.string xn, .int .i64 xk, .int .i64 xm, .float .f64 xf, .string xs] := N3h.out
              have B5h : Hid (Below Y w (w3.drewN nq)) := Lib.hid (below_drewN B3h.out nq)
              generalize w3.drewN nq = w5 at *
              have m0 : w5.cell? ⟨wr.heap.size, 0, none⟩ = some (.string xn) := N5.cell 0
              have m1 : w5.cell? ⟨wr.heap.size, 1, none⟩ = some (.int .i64 xk) := N5.cell 1
              have m2 : w5.cell? ⟨wr.heap.size, 2, none⟩ = some (.int .i64 xm) := N5.cell 2
              have m3 : w5.cell? ⟨wr.heap.size, 3, none⟩ = some (.float .f64 xf) := N5.cell 3
              have m4 : w5.cell? ⟨wr.heap.size, 4, none⟩ = some (.string xs) := N5.cell 4
              clear N5
              go_wp2_with fail
              refine (WAh.out _).mono ?_
              rintro e w6 ⟨rfl, rfl⟩
              go_wp2_with fail
              go_ret
              exact ⟨ret_bool R.out, hy ▸ B5h.out⟩
            · cases hv : mayB ⟨xk, xm, xf, xs⟩
              · have R := Lib.hid (show false = A from (OF.out (E0.out.trans (by rw [hw, hv]; cases ltS yn xn <;> rfl))).symm)
                rw [hw] at WA
                rw [hv] at VA
                clear hw hv
                have WAh := Lib.hid WA
                have VAh := Lib.hid VA
                clear VA WA
                go_wp2_with fail
                rw [← W3.out]
                go_quiet (fail)
                have N5 : Blk (w3.drewN nq) wr.heap.size 105 #[.string xn, .int .i64 xk, .int .i64 xm, .float .f64 xf, .string xs] := N3h.out
                have B5h : Hid (Below Y w (w3.drewN nq)) := Lib.hid (below_drewN B3h.out nq)
                generalize w3.drewN nq = w5 at *
                have m0 : w5.cell? ⟨wr.heap.size, 0, none⟩ = some (.string xn) := N5.cell 0
                have m1 : w5.cell? ⟨wr.heap.size, 1, none⟩ = some (.int .i64 xk) := N5.cell 1
                have m2 : w5.cell? ⟨wr.heap.size, 2, none⟩ = some (.int .i64 xm) := N5.cell 2
                have m3 : w5.cell? ⟨wr.heap.size, 3, none⟩ = some (.float .f64 xf) := N5.cell 3
                have m4 : w5.cell? ⟨wr.heap.size, 4, none⟩ = some (.string xs) := N5.cell 4
                clear N5
                go_wp2_with fail
                refine (WAh.out _).mono ?_
                rintro e w6 ⟨rfl, rfl⟩
                go_wp2_with fail
                refine (VAh.out _).mono ?_
                rintro e w7 ⟨rfl, b7⟩
                have B7h : Hid (Below Y w w7) := Lib.hid (B5h.out.trans (b7.mono (by have := B5h.out.size; omega)))
                clear b7
                go_wp2_with fail
                go_ret
                exact ⟨ret_bool R.out, hy ▸ B7h.out⟩
              · have N1 : Hid (okTo L ((i + 1) + 1) = true) := Lib.hid (by rw [OT.out, hf.out, E0.out, hlt, hw, hv]; rfl)
                rw [hw] at WA
                rw [hv] at VA
                clear hw hv
                have WAh := Lib.hid WA
                have VAh := Lib.hid VA
                clear VA WA
                go_wp2_with fail
                rw [← W3.out]
                go_quiet (fail)
                have N5 : Blk (w3.drewN nq) wr.heap.size 105 #[.string xn, .int .i64 xk, .int .i64 xm, .float .f64 xf, .string xs] := N3h.out
                have B5h : Hid (Below Y w (w3.drewN nq)) := Lib.hid (below_drewN B3h.out nq)
                generalize w3.drewN nq = w5 at *
                have m0 : w5.cell? ⟨wr.heap.size, 0, none⟩ = some (.string xn) := N5.cell 0
                have m1 : w5.cell? ⟨wr.heap.size, 1, none⟩ = some (.int .i64 xk) := N5.cell 1
                have m2 : w5.cell? ⟨wr.heap.size, 2, none⟩ = some (.int .i64 xm) := N5.cell 2
                have m3 : w5.cell? ⟨wr.heap.size, 3, none⟩ = some (.float .f64 xf) := N5.cell 3
                have m4 : w5.cell? ⟨wr.heap.size, 4, none⟩ = some (.string xs) := N5.cell 4
                clear N5
                go_wp2_with fail
                refine (WAh.out _).mono ?_
                rintro e w6 ⟨rfl, rfl⟩
                go_wp2_with fail
                refine (VAh.out _).mono ?_
                rintro e w7 ⟨rfl, b7⟩
                have B7h : Hid (Below Y w w7) := Lib.hid (B5h.out.trans (b7.mono (by have := B5h.out.size; omega)))
                clear b7
                go_wp2_with fail
                go_roundw
                case rel => exact ⟨(i + 1) + 1, by go_num, by omega, N1, B7h.out⟩
                case measure => simp [intOf]; omega
      · obtain rfl : j = n := by omega
        have R := Lib.hid (show true = A by rw [← HA.out]; exact hf.out.symm)
        go_wp2_with fail
        go_ret
        exact ⟨ret_bool R.out, hy ▸ HB.out⟩
  · have h8' : (8 : Int) < (L.length : Int) := by omega
    rw [decide_eq_false h8]
    have FIN := Lib.hid (Below.refl w.heap.size w)
    generalize okTo L L.length = A
    generalize L.length = n at *
    go_enter Try.func71, Try.ntmps71
    go_wp2_with fail
    go_ret
    exact ⟨rfl, FIN.out⟩
end Go.Proofs.Ytggjpallbapcmaa
/-
  EVENTS THAT MAY BE: event.Check.
-/
namespace Go.Proofs.Ytggjpallbapcmaa
open Go.RowKit
def chkB (a b c : Int) (k : ByteArray) (L : List Fld) : Bool := numB a && (numB b && (numB c && (wordB k && fieldsB L)))
def errI (b : Bool) : Int := if b then 0 else 1
theorem ret_int {x y : Int} (h : x = y) : Ending.returned (.int .i64 x) = .returned (.int .i64 y) := by rw [h]
set_option maxHeartbeats 1000000 in
set_option maxRecDepth 100000 in
theorem check_any (a b c : Int) (k : ByteArray) (p : Option Addr) (cp : Nat) (L : List Fld) (w : World) (hl : L.length ≤ 100) (hk : k.size ≤ 9223372036854775807) (hx : Flds w p L) (hS : ∀ x ∈ L, x.nm.size ≤ 9223372036854775807 ∧ x.v.s.size ≤ 9223372036854775807) :
    Calls Try.prog 41 #[evV a b c k (.slice p L.length cp)] w fun e w' => e = .returned (.int .i64 (errI (chkB a b c k L))) ∧ Below w.heap.size w w' := by
  obtain ⟨w1, hw1, K1, B1, hs1⟩ : ∃ w1, w1 = w.alloc (.cells #[.int .i64 a, .int .i64 b, .int .i64 c, .string k, .slice p L.length cp] 31) ∧ Blk w1 w.heap.size 31 #[.int .i64 a, .int .i64 b, .int .i64 c, .string k, .slice p L.length cp] ∧ Below w.heap.size w w1 ∧ w1.heap.size = w.heap.size + 1 :=
    ⟨_, rfl, heap_alloc_new w _, (Below.refl w.heap.size w).alloc (Nat.le_refl _) _, by simp⟩
  have W1 := Lib.hid hw1
  have B1h := Lib.hid B1
  have NA := number_any a
  have NB := number_any b
  have NC := number_any c
  have WK := word_any k hk
  have FA := fields_any p cp L w1 hl (hx.below B1) hS
  have e0 : w1.cell? ⟨w.heap.size, 0, none⟩ = some (.int .i64 a) := K1.cell 0
  have e1 : w1.cell? ⟨w.heap.size, 1, none⟩ = some (.int .i64 b) := K1.cell 1
  have e2 : w1.cell? ⟨w.heap.size, 2, none⟩ = some (.int .i64 c) := K1.cell 2
  have e3 : w1.cell? ⟨w.heap.size, 3, none⟩ = some (.string k) := K1.cell 3
  have e4 : w1.cell? ⟨w.heap.size, 4, none⟩ = some (.slice p L.length cp) := K1.cell 4
  clear hx hS K1 B1 hw1
  unfold chkB errI
  generalize fieldsB L = bF at *
  generalize L.length = n at *
  generalize numB a = bA at *
  generalize numB b = bB at *
  generalize numB c = bC at *
  generalize wordB k = bK at *
  have NAh := Lib.hid NA
  have NBh := Lib.hid NB
  have NCh := Lib.hid NC
  have WKh := Lib.hid WK
  have FAh := Lib.hid FA
  clear NA NB NC WK FA
  generalize hy : w.heap.size = Y at *
  unfold evV
  cases bA
  · go_enter Try.func41, Try.ntmps41
    go_wp2_with fail
    rw [← W1.out]
    go_wp2_with fail
    refine (NAh.out _).mono ?_
    rintro e w2 ⟨rfl, rfl⟩
    go_wp2_with fail
    go_ret
    exact ⟨rfl, B1h.out⟩
  · skip
    cases bB
    · go_enter Try.func41, Try.ntmps41
      go_wp2_with fail
      rw [← W1.out]
      go_wp2_with fail
      refine (NAh.out _).mono ?_
      rintro e w2 ⟨rfl, rfl⟩
      go_wp2_with fail
      refine (NBh.out _).mono ?_
      rintro e w3 ⟨rfl, rfl⟩
      go_wp2_with fail
      go_ret
      exact ⟨rfl, B1h.out⟩
    · skip
      cases bC
      · go_enter Try.func41, Try.ntmps41
        go_wp2_with fail
        rw [← W1.out]
        go_wp2_with fail
        refine (NAh.out _).mono ?_
        rintro e w2 ⟨rfl, rfl⟩
        go_wp2_with fail
        refine (NBh.out _).mono ?_
        rintro e w3 ⟨rfl, rfl⟩
        go_wp2_with fail
        refine (NCh.out _).mono ?_
        rintro e w4 ⟨rfl, rfl⟩
        go_wp2_with fail
        go_ret
        exact ⟨rfl, B1h.out⟩
      · skip
        cases bK
        · go_enter Try.func41, Try.ntmps41
          go_wp2_with fail
          rw [← W1.out]
          go_wp2_with fail
          refine (NAh.out _).mono ?_
          rintro e w2 ⟨rfl, rfl⟩
          go_wp2_with fail
          refine (NBh.out _).mono ?_
          rintro e w3 ⟨rfl, rfl⟩
          go_wp2_with fail
          refine (NCh.out _).mono ?_
          rintro e w4 ⟨rfl, rfl⟩
          go_wp2_with fail
          refine (WKh.out _).mono ?_
          rintro e w5 ⟨rfl, rfl⟩
          go_wp2_with fail
          go_ret
          exact ⟨rfl, B1h.out⟩
        · skip
          cases bF
          · go_enter Try.func41, Try.ntmps41
            go_wp2_with fail
            rw [← W1.out]
            go_wp2_with fail
            refine (NAh.out _).mono ?_
            rintro e w2 ⟨rfl, rfl⟩
            go_wp2_with fail
            refine (NBh.out _).mono ?_
            rintro e w3 ⟨rfl, rfl⟩
            go_wp2_with fail
            refine (NCh.out _).mono ?_
            rintro e w4 ⟨rfl, rfl⟩
            go_wp2_with fail
            refine (WKh.out _).mono ?_
            rintro e w5 ⟨rfl, rfl⟩
            go_wp2_with fail
            refine (FAh.out).mono ?_
            rintro e w5 ⟨rfl, b5⟩
            have B5h : Hid (Below Y w w5) := Lib.hid (B1h.out.trans (b5.mono (by omega)))
            clear b5
            go_wp2_with fail
            go_ret
            exact ⟨rfl, B5h.out⟩
          · go_enter Try.func41, Try.ntmps41
            go_wp2_with fail
            rw [← W1.out]
            go_wp2_with fail
            refine (NAh.out _).mono ?_
            rintro e w2 ⟨rfl, rfl⟩
            go_wp2_with fail
            refine (NBh.out _).mono ?_
            rintro e w3 ⟨rfl, rfl⟩
            go_wp2_with fail
            refine (NCh.out _).mono ?_
            rintro e w4 ⟨rfl, rfl⟩
            go_wp2_with fail
            refine (WKh.out _).mono ?_
            rintro e w5 ⟨rfl, rfl⟩
            go_wp2_with fail
            refine (FAh.out).mono ?_
            rintro e w5 ⟨rfl, b5⟩
            have B5h : Hid (Below Y w w5) := Lib.hid (B1h.out.trans (b5.mono (by omega)))
            clear b5
            go_wp2_with fail
            go_ret
            exact ⟨rfl, B5h.out⟩
end Go.Proofs.Ytggjpallbapcmaa
/-
  AN EVENT WITH NUMBERS; a copy of one without fields; the first event of a teller.
-/
namespace Go.Proofs.Ytggjpallbapcmaa
open Go.RowKit
set_option maxHeartbeats 1000000 in
set_option maxRecDepth 100000 in
theorem numbered_any (a b c id sq : Int) (k : ByteArray) (p : Option Addr) (n cp : Nat) (w : World) (hi : -9223372036854775808 ≤ sq + 1 ∧ sq + 1 ≤ 9223372036854775807) : Calls Try.prog 42 #[evV a b c k (.slice p n cp), .agg #[.int .i64 id, .int .i64 sq]] w fun e w' => e = .returned (evV id (sq + 1) c k (.slice p n cp)) ∧ Below w.heap.size w w' := by
  have hw : wrap64 (sq + 1) = sq + 1 := by unfold wrap64; omega
  unfold evV
  go_enter Try.func42, Try.ntmps42
  go_wp2_with fail
  go_region
  go_wp2_with fail
  refine bodyPost_ret (by simp [results, Try.results42, go_sem]; try rfl) rfl ?_
  refine ⟨rfl, ?_⟩
  exact (((((Below.refl w.heap.size w).alloc (Nat.le_refl _) _).alloc (by simp) _).alloc (by simp; omega) _).drew)
set_option maxRecDepth 100000 in
theorem clone_nil (w : World) : Calls Try.prog 72 #[.slice none 0 0] w fun e w' => e = .returned (.slice none 0 0) ∧ w = w' := by
  have q29 : ∀ (w : World) (a : Option Addr) (n c n' c' : Nat), (binOp .eql 29 (.slice a n c) (.slice none n' c')).run Try.prog w = .ok (.bool a.isNone) w := fun w a n c n' c' => Lib.run_eql_slice_nil w _ _ a n c n' c' Try.underlying29
  go_enter Try.func72, Try.ntmps72
  go_wp2_with fail
  go_ret
  exact ⟨rfl, rfl⟩
set_option maxHeartbeats 1000000 in
set_option maxRecDepth 100000 in
theorem copied_nil (a b c : Int) (k : ByteArray) (hk : k.size ≤ 281474976710656) (w : World) : Calls Try.prog 43 #[evV a b c k (.slice none 0 0)] w fun e w' => e = .returned (evV a b c k (.slice none 0 0)) ∧ Below w.heap.size w w' := by
  obtain ⟨w1, hw1, K1, Z1, B1, hs1⟩ : ∃ w1, w1 = (w.alloc (.cells #[.int .i64 a, .int .i64 b, .int .i64 c, .string k, .slice none 0 0] 31)).alloc (.cells #[.int .i64 0, .int .i64 0, .int .i64 0, .string ⟨#[]⟩, .slice none 0 0] 31) ∧ Blk w1 w.heap.size 31 #[.int .i64 a, .int .i64 b, .int .i64 c, .string k, .slice none 0 0] ∧ Blk w1 (w.heap.size + 1) 31 #[.int .i64 0, .int .i64 0, .int .i64 0, .string ⟨#[]⟩, .slice none 0 0] ∧ Below w.heap.size w w1 ∧ w1.heap.size = w.heap.size + 1 + 1 :=
    ⟨_, rfl, (Blk.new w 31 _).below ((Below.refl _ _).alloc (Nat.le_refl _) _), by have := Blk.new (w.alloc (.cells #[.int .i64 a, .int .i64 b, .int .i64 c, .string k, .slice none 0 0] 31)) 31 #[.int .i64 0, .int .i64 0, .int .i64 0, .string ⟨#[]⟩, .slice none 0 0]; simpa using this, ((Below.refl w.heap.size w).alloc (Nat.le_refl _) _).alloc (by simp) _, by simp⟩
  have SC := Lib.hid (str_clone k w1 hk)
  have W1 := Lib.hid hw1
  unfold evV
  generalize hy : w.heap.size = Y at *
  have e3 : w1.cell? ⟨Y, 3, none⟩ = some (.string k) := K1.cell 3
  have K1h := Lib.hid K1
  have Z1h := Lib.hid Z1
  have B1h := Lib.hid B1
  clear K1 Z1 B1 hw1 hk
  go_enter Try.func43, Try.ntmps43
  go_wp2_with fail
  rw [← W1.out]
  go_wp2_with fail
  refine SC.out.mono ?_
  rintro e w2 ⟨rfl, b2⟩
  have K2 := (K1h.out.below b2).set 3 (.string k)
  have Z2 := (Z1h.out.below b2)
  have c3 : w2.cell? ⟨Y, 3, none⟩ = some (.string k) := (K1h.out.below b2).cell 3
  have c4 : w2.cell? ⟨Y, 4, none⟩ = some (.slice none 0 0) := (K1h.out.below b2).cell 4
  have c0 : w2.cell? ⟨Y, 0, none⟩ = some (.int .i64 a) := (K1h.out.below b2).cell 0
  have c1 : w2.cell? ⟨Y, 1, none⟩ = some (.int .i64 b) := (K1h.out.below b2).cell 1
  have c2 : w2.cell? ⟨Y, 2, none⟩ = some (.int .i64 c) := (K1h.out.below b2).cell 2
  have fz : ∀ i, w2.frozen? ⟨Y, i, none⟩ = false := (K1h.out.below b2).free
  have z0 : w2.cell? ⟨Y + 1, 0, none⟩ = some (.int .i64 0) := Z2.cell 0
  have z1 : w2.cell? ⟨Y + 1, 1, none⟩ = some (.int .i64 0) := Z2.cell 1
  have z2 : w2.cell? ⟨Y + 1, 2, none⟩ = some (.int .i64 0) := Z2.cell 2
  have z3 : w2.cell? ⟨Y + 1, 3, none⟩ = some (.string ⟨#[]⟩) := Z2.cell 3
  have z4 : w2.cell? ⟨Y + 1, 4, none⟩ = some (.slice none 0 0) := Z2.cell 4
  have gz : ∀ i, w2.frozen? ⟨Y + 1, i, none⟩ = false := Z2.free
  have B2 := Lib.hid (B1h.out.trans (b2.mono (by omega)))
  clear b2 K2 Z2 e3 K1h Z1h B1h W1
  go_wp2_with fail
  refine (clone_nil _).mono ?_
  rintro e w3 ⟨rfl, rfl⟩
  go_wp2_with fail
  go_rounds 1
  refine bodyPost_ret (by simp [results, Try.results43, go_sem, z0, z1, z2, z3, z4]; try rfl) rfl ?_
  refine ⟨rfl, ?_⟩
  have l0 : Y ≤ Y := Nat.le_refl _
  have l1 : Y ≤ Y + 1 := Nat.le_succ _
  exact (((((((B2.out.setCell (p := ⟨Y, 3, none⟩) l0 _).setCell (p := ⟨Y, 4, none⟩) l0 _).setCell (p := ⟨Y + 1, 0, none⟩) l1 _).setCell (p := ⟨Y + 1, 1, none⟩) l1 _).setCell (p := ⟨Y + 1, 2, none⟩) l1 _).setCell (p := ⟨Y + 1, 3, none⟩) l1 _).setCell (p := ⟨Y + 1, 4, none⟩) l1 _)
end Go.Proofs.Ytggjpallbapcmaa
