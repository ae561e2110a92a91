/-
  WHAT THE ROWS REST ON, part 6: Chk2 Chk3 Tpl Tpl2 Tpl3.
-/
import Derived.Deep.QuietTactic
import Derived.BigQuiet
import Derived.WalkSmall
import Derived.Test.YtkajadkmdcalmaaGreatDoorPart5
/-
  FIELDS THAT MAY BE: event.fields.
-/
namespace Go.Proofs.YtkajadkmdcalmaaGreatDoor
open Go.RowKit
def prevN (L : List Fld) (i : Nat) : ByteArray := ((L[i - 1]?).map (·.nm)).getD ⟨#[]⟩
def okAt (L : List Fld) (i : Nat) : Bool :=
  match L[i]? with
  | none => true
  | some x => (decide (i = 0) || ltS (prevN L i) x.nm) && (wordB x.nm && mayB x.v)
def okTo (L : List Fld) (j : Nat) : Bool := (List.range j).all (okAt L)
def fieldsB (L : List Fld) : Bool := decide (L.length ≤ 8) && okTo L L.length
theorem okTo_succ (L : List Fld) (j : Nat) : okTo L (j + 1) = (okTo L j && okAt L j) := by simp [okTo, List.range_succ]
theorem okTo_false {L : List Fld} {j n : Nat} (hj : j < n) (h : okAt L j = false) : okTo L n = false := by
  unfold okTo
  rw [List.all_eq_false]
  exact ⟨j, List.mem_range.2 hj, by rw [h]; decide⟩
theorem okAt_zero {L : List Fld} (h : 0 < L.length) : okAt L 0 = (wordB L[0].nm && mayB L[0].v) := by
  unfold okAt
  rw [List.getElem?_eq_getElem h]
  simp
theorem okAt_succ {L : List Fld} {i : Nat} (h : i + 1 < L.length) : okAt L (i + 1) = (ltS (L[i]'(by omega)).nm L[i + 1].nm && (wordB L[i + 1].nm && mayB L[i + 1].v)) := by
  unfold okAt prevN
  rw [List.getElem?_eq_getElem h, Nat.add_sub_cancel, List.getElem?_eq_getElem (show i < L.length by omega)]
  simp
set_option maxHeartbeats 1000000 in
set_option maxRecDepth 100000 in
theorem fields_any (p : Option Addr) (cp : Nat) (L : List Fld) (w : World) (hl : L.length ≤ 100) (hx : Flds w p L) (hS : ∀ x ∈ L, x.nm.size ≤ 9223372036854775807 ∧ x.v.s.size ≤ 9223372036854775807) :
    Calls Tryz.prog 117 #[.slice p L.length cp] w fun e w' => e = .returned (.bool (fieldsB L)) ∧ Below w.heap.size w w' := by
  unfold fieldsB
  by_cases h8 : L.length ≤ 8
  · have h8' : ¬ (8 : Int) < (L.length : Int) := by omega
    rw [decide_eq_true h8]
    have X2h := Lib.hid hx
    have HS := Lib.hid hS
    generalize hA : okTo L L.length = A
    have HA := Lib.hid hA
    generalize hn : L.length = n at *
    have HN := Lib.hid hn
    have BR := Lib.hid (Below.refl w.heap.size w)
    clear hn hx hS hA
    generalize hy : w.heap.size = Y at *
    rw [Bool.true_and]
    go_enter Tryz.func117, Tryz.ntmps117
    go_wp2_with fail
    go_loopw [11] (fun i wq => ∃ j : Nat, i = .int .i64 j ∧ j ≤ n ∧ Hid (okTo L j = true) ∧ Below Y w wq) (fun i _ => n - (intOf i).toNat)
    case atStart => exact ⟨0, rfl, Nat.zero_le _, Lib.hid rfl, BR.out⟩
    case round =>
      obtain ⟨j, rfl, hj, hf, hB⟩ := hrel
      have HB := Lib.hid hB
      clear hB
      by_cases hjn : j < n
      · have hjL : j < L.length := by rw [HN.out]; exact hjn
        obtain ⟨g0, o, rfl, hg0, c0, c1, c2, c3, c4⟩ := X2h.out j hjL
        have hgY : g0 < Y := by rw [← hy]; exact hg0
        rw [← HB.out.cell (p := ⟨g0, _, none⟩) hgY] at c0 c1 c2 c3 c4
        have SZ := Lib.hid (HS.out L[j] (List.getElem_mem hjL))
        have OT := Lib.hid (okTo_succ L j)
        have OF := Lib.hid (fun h => HA.out.symm.trans (okTo_false (L := L) hjn h))
        rcases j with _ | i
        · have E0 := Lib.hid (okAt_zero hjL)
          generalize L[0] = x at *
          obtain ⟨xn, xk, xm, xf, xs⟩ := x
          simp only at c0 c1 c2 c3 c4 E0 SZ
          have WA := word_any xn SZ.out.1
          have VA := value_any ⟨xk, xm, xf, xs⟩ SZ.out.2
          unfold Val.val at VA
          simp only at VA
          obtain ⟨w3, hw3, N3, B3⟩ : ∃ w3, w3 = wr.alloc (.cells #[.string xn, .int .i64 xk, .int .i64 xm, .float .f64 xf, .string xs] 85) ∧ Blk w3 wr.heap.size 85 #[.string xn, .int .i64 xk, .int .i64 xm, .float .f64 xf, .string xs] ∧ Below wr.heap.size wr w3 :=
            ⟨_, rfl, heap_alloc_new wr _, (Below.refl _ wr).alloc (Nat.le_refl _) _⟩
          have W3 := Lib.hid hw3
          have B3h : Hid (Below Y w w3) := Lib.hid (HB.out.trans (B3.mono (by have := HB.out.size; omega)))
          have N3h := Lib.hid N3
          clear hw3 N3 B3
          simp only [Nat.zero_mul, Nat.add_zero] at c0 c1 c2 c3 c4
          rw [show ((0 : Nat) : Int) = 0 from rfl]
          cases hw : wordB xn
          · have R := Lib.hid (show false = A from (OF.out (E0.out.trans (by rw [hw]; rfl))).symm)
            rw [hw] at WA
            clear hw
            have WAh := Lib.hid WA
            clear VA WA
            go_wp2_with fail
            rw [← W3.out]
            go_quiet (fail)
            have N5 : Blk (w3.drewN nq) wr.heap.size 85 #[.string xn, .int .i64 xk, .int .i64 xm, .float .f64 xf, .string xs] := N3h.out
            have B5h : Hid (Below Y w (w3.drewN nq)) := Lib.hid (below_drewN B3h.out nq)
            generalize w3.drewN nq = w5 at *
            have m0 : w5.cell? ⟨wr.heap.size, 0, none⟩ = some (.string xn) := N5.cell 0
            have m1 : w5.cell? ⟨wr.heap.size, 1, none⟩ = some (.int .i64 xk) := N5.cell 1
            have m2 : w5.cell? ⟨wr.heap.size, 2, none⟩ = some (.int .i64 xm) := N5.cell 2
            have m3 : w5.cell? ⟨wr.heap.size, 3, none⟩ = some (.float .f64 xf) := N5.cell 3
            have m4 : w5.cell? ⟨wr.heap.size, 4, none⟩ = some (.string xs) := N5.cell 4
            clear N5
            go_wp2_with fail
            refine (WAh.out _).mono ?_
            rintro e w6 ⟨rfl, rfl⟩
            go_wp2_with fail
            go_ret
            exact ⟨ret_bool R.out, hy ▸ B5h.out⟩
          · cases hv : mayB ⟨xk, xm, xf, xs⟩
            · have R := Lib.hid (show false = A from (OF.out (E0.out.trans (by rw [hw, hv]; rfl))).symm)
              rw [hw] at WA
              rw [hv] at VA
              clear hw hv
              have WAh := Lib.hid WA
              have VAh := Lib.hid VA
              clear VA WA
              go_wp2_with fail
              rw [← W3.out]
              go_quiet (fail)
              have N5 : Blk (w3.drewN nq) wr.heap.size 85 #[.string xn, .int .i64 xk, .int .i64 xm, .float .f64 xf, .string xs] := N3h.out
              have B5h : Hid (Below Y w (w3.drewN nq)) := Lib.hid (below_drewN B3h.out nq)
              generalize w3.drewN nq = w5 at *
              have m0 : w5.cell? ⟨wr.heap.size, 0, none⟩ = some (.string xn) := N5.cell 0
              have m1 : w5.cell? ⟨wr.heap.size, 1, none⟩ = some (.int .i64 xk) := N5.cell 1
              have m2 : w5.cell? ⟨wr.heap.size, 2, none⟩ = some (.int .i64 xm) := N5.cell 2
              have m3 : w5.cell? ⟨wr.heap.size, 3, none⟩ = some (.float .f64 xf) := N5.cell 3
              have m4 : w5.cell? ⟨wr.heap.size, 4, none⟩ = some (.string xs) := N5.cell 4
              clear N5
              go_wp2_with fail
              refine (WAh.out _).mono ?_
              rintro e w6 ⟨rfl, rfl⟩
              go_wp2_with fail
              refine (VAh.out _).mono ?_
              rintro e w7 ⟨rfl, b7⟩
              have B7h : Hid (Below Y w w7) := Lib.hid (B5h.out.trans (b7.mono (by have := B5h.out.size; omega)))
              clear b7
              go_wp2_with fail
              go_ret
              exact ⟨ret_bool R.out, hy ▸ B7h.out⟩
            · have N1 : Hid (okTo L (0 + 1) = true) := Lib.hid (by rw [OT.out, hf.out, E0.out, hw, hv]; rfl)
              rw [hw] at WA
              rw [hv] at VA
              clear hw hv
              have WAh := Lib.hid WA
              have VAh := Lib.hid VA
              clear VA WA
              go_wp2_with fail
              rw [← W3.out]
              go_quiet (fail)
              have N5 : Blk (w3.drewN nq) wr.heap.size 85 #[.string xn, .int .i64 xk, .int .i64 xm, .float .f64 xf, .string xs] := N3h.out
              have B5h : Hid (Below Y w (w3.drewN nq)) := Lib.hid (below_drewN B3h.out nq)
              generalize w3.drewN nq = w5 at *
              have m0 : w5.cell? ⟨wr.heap.size, 0, none⟩ = some (.string xn) := N5.cell 0
              have m1 : w5.cell? ⟨wr.heap.size, 1, none⟩ = some (.int .i64 xk) := N5.cell 1
              have m2 : w5.cell? ⟨wr.heap.size, 2, none⟩ = some (.int .i64 xm) := N5.cell 2
              have m3 : w5.cell? ⟨wr.heap.size, 3, none⟩ = some (.float .f64 xf) := N5.cell 3
              have m4 : w5.cell? ⟨wr.heap.size, 4, none⟩ = some (.string xs) := N5.cell 4
              clear N5
              go_wp2_with fail
              refine (WAh.out _).mono ?_
              rintro e w6 ⟨rfl, rfl⟩
              go_wp2_with fail
              refine (VAh.out _).mono ?_
              rintro e w7 ⟨rfl, b7⟩
              have B7h : Hid (Below Y w w7) := Lib.hid (B5h.out.trans (b7.mono (by have := B5h.out.size; omega)))
              clear b7
              go_wp2_with fail
              go_roundw
              case rel => exact ⟨0 + 1, by go_num, by omega, N1, B7h.out⟩
              case measure => simp [intOf]; omega
        · have hiL : i < L.length := by omega
          have hin : i < n := by omega
          obtain ⟨g0', o', he, _, d0, _, _, _, _⟩ := X2h.out i hiL
          obtain ⟨rfl, rfl⟩ : g0' = g0 ∧ o' = o := by simp only [Option.some.injEq, Addr.mk.injEq, and_true] at he; exact ⟨he.1.symm, he.2.symm⟩
          clear he
          rw [← HB.out.cell (p := ⟨g0', _, none⟩) hgY] at d0
          have E0 := Lib.hid (okAt_succ hjL)
          generalize L[i + 1] = x at *
          generalize L[i] = y at *
          obtain ⟨xn, xk, xm, xf, xs⟩ := x
          obtain ⟨yn, yk, ym, yf, ys⟩ := y
          simp only at c0 c1 c2 c3 c4 E0 SZ d0
          have WA := word_any xn SZ.out.1
          have VA := value_any ⟨xk, xm, xf, xs⟩ SZ.out.2
          unfold Val.val at VA
          simp only at VA
          obtain ⟨w3, hw3, N3, B3, d3⟩ : ∃ w3, w3 = wr.alloc (.cells #[.string xn, .int .i64 xk, .int .i64 xm, .float .f64 xf, .string xs] 85) ∧ Blk w3 wr.heap.size 85 #[.string xn, .int .i64 xk, .int .i64 xm, .float .f64 xf, .string xs] ∧ Below wr.heap.size wr w3 ∧ w3.cell? ⟨g0', o' + i * 5, none⟩ = some (.string yn) :=
            ⟨_, rfl, heap_alloc_new wr _, (Below.refl _ wr).alloc (Nat.le_refl _) _, by rw [World.cell?_alloc_lt _ _ _ (World.block_lt_of_cell? _ _ d0)]; exact d0⟩
          have W3 := Lib.hid hw3
          have B3h : Hid (Below Y w w3) := Lib.hid (HB.out.trans (B3.mono (by have := HB.out.size; omega)))
          have N3h := Lib.hid N3
          have n3 : w3.cell? ⟨wr.heap.size, 0, none⟩ = some (.string xn) := N3.cell 0
          have z1 : (((i + 1 : Nat) : Int) == 0) = false := by simp; omega
          have z2 : (((i : Int) + 1) == 0) = false := by simp; omega
          have hwp : IntKind.i64.wrap ((i : Int) + 1 - 1) = (i : Int) := by rw [Int.add_sub_cancel]; exact IntWalk.i64_in _ (by omega)
          have hwq : IntKind.i64.wrap (((i + 1 : Nat) : Int) - 1) = (i : Int) := by rw [show (((i + 1 : Nat) : Int) - 1) = (i : Int) by omega]; exact IntWalk.i64_in _ (by omega)
          clear hw3 N3 B3 d0
          cases hlt : ltS yn xn
          · have R := Lib.hid (show false = A from (OF.out (E0.out.trans (by rw [hlt]; rfl))).symm)
            unfold ltS at hlt
            clear VA WA
            go_wp2_with fail
            rw [← W3.out]
            go_quiet (fail)
            have B5h : Hid (Below Y w (w3.drewN nq)) := Lib.hid (below_drewN B3h.out nq)
            generalize w3.drewN nq = w5 at *
            go_wp2_with fail
            go_ret
            exact ⟨ret_bool R.out, hy ▸ B5h.out⟩
          · have hlt' := hlt
            unfold ltS at hlt'
            cases hw : wordB xn
            · have R := Lib.hid (show false = A from (OF.out (E0.out.trans (by rw [hw]; cases ltS yn xn <;> rfl))).symm)
              rw [hw] at WA
              clear hw
              have WAh := Lib.hid WA
              clear VA WA
              go_wp2_with fail
              rw [← W3.out]
              go_quiet (fail)
              have N5 : Blk (w3.drewN nq) wr.heap.size 85 #[.string xn, .int .i64 xk, .int .i64 xm, .float .f64 xf, .string xs] := N3h.out
              have B5h : Hid (Below Y w (w3.drewN nq)) := Lib.hid (below_drewN B3h.out nq)
              generalize w3.drewN nq = w5 at *
              have m0 : w5.cell? ⟨wr.heap.size, 0, none⟩ = some (.string xn) := N5.cell 0
              have m1 : w5.cell? ⟨wr.heap.size, 1, none⟩ = some (.int .i64 xk) := N5.cell 1
              have m2 : w5.cell? ⟨wr.heap.size, 2, none⟩ = some (.int .i64 xm) := N5.cell 2
              have m3 : w5.cell? ⟨wr.heap.size, 3, none⟩ = some (.float .f64 xf) := N5.cell 3
              have m4 : w5.cell? ⟨wr.heap.size, 4, none⟩ = some (.string xs) := N5.cell 4
              clear N5
              go_wp2_with fail
              refine (WAh.out _).mono ?_
              rintro e w6 ⟨rfl, rfl⟩
              go_wp2_with fail
              go_ret
              exact ⟨ret_bool R.out, hy ▸ B5h.out⟩
            · cases hv : mayB ⟨xk, xm, xf, xs⟩
              · have R := Lib.hid (show false = A from (OF.out (E0.out.trans (by rw [hw, hv]; cases ltS yn xn <;> rfl))).symm)
                rw [hw] at WA
                rw [hv] at VA
                clear hw hv
                have WAh := Lib.hid WA
                have VAh := Lib.hid VA
                clear VA WA
                go_wp2_with fail
                rw [← W3.out]
                go_quiet (fail)
                have N5 : Blk (w3.drewN nq) wr.heap.size 85 #[.string xn, .int .i64 xk, .int .i64 xm, .float .f64 xf, .string xs] := N3h.out
                have B5h : Hid (Below Y w (w3.drewN nq)) := Lib.hid (below_drewN B3h.out nq)
                generalize w3.drewN nq = w5 at *
                have m0 : w5.cell? ⟨wr.heap.size, 0, none⟩ = some (.string xn) := N5.cell 0
                have m1 : w5.cell? ⟨wr.heap.size, 1, none⟩ = some (.int .i64 xk) := N5.cell 1
                have m2 : w5.cell? ⟨wr.heap.size, 2, none⟩ = some (.int .i64 xm) := N5.cell 2
                have m3 : w5.cell? ⟨wr.heap.size, 3, none⟩ = some (.float .f64 xf) := N5.cell 3
                have m4 : w5.cell? ⟨wr.heap.size, 4, none⟩ = some (.string xs) := N5.cell 4
                clear N5
                go_wp2_with fail
                refine (WAh.out _).mono ?_
                rintro e w6 ⟨rfl, rfl⟩
                go_wp2_with fail
                refine (VAh.out _).mono ?_
                rintro e w7 ⟨rfl, b7⟩
                have B7h : Hid (Below Y w w7) := Lib.hid (B5h.out.trans (b7.mono (by have := B5h.out.size; omega)))
                clear b7
                go_wp2_with fail
                go_ret
                exact ⟨ret_bool R.out, hy ▸ B7h.out⟩
              · have N1 : Hid (okTo L ((i + 1) + 1) = true) := Lib.hid (by rw [OT.out, hf.out, E0.out, hlt, hw, hv]; rfl)
                rw [hw] at WA
                rw [hv] at VA
                clear hw hv
                have WAh := Lib.hid WA
                have VAh := Lib.hid VA
                clear VA WA
                go_wp2_with fail
                rw [← W3.out]
                go_quiet (fail)
                have N5 : Blk (w3.drewN nq) wr.heap.size 85 #[.string xn, .int .i64 xk, .int .i64 xm, .float .f64 xf, .string xs] := N3h.out
                have B5h : Hid (Below Y w (w3.drewN nq)) := Lib.hid (below_drewN B3h.out nq)
                generalize w3.drewN nq = w5 at *
                have m0 : w5.cell? ⟨wr.heap.size, 0, none⟩ = some (.string xn) := N5.cell 0
                have m1 : w5.cell? ⟨wr.heap.size, 1, none⟩ = some (.int .i64 xk) := N5.cell 1
                have m2 : w5.cell? ⟨wr.heap.size, 2, none⟩ = some (.int .i64 xm) := N5.cell 2
                have m3 : w5.cell? ⟨wr.heap.size, 3, none⟩ = some (.float .f64 xf) := N5.cell 3
                have m4 : w5.cell? ⟨wr.heap.size, 4, none⟩ = some (.string xs) := N5.cell 4
                clear N5
                go_wp2_with fail
                refine (WAh.out _).mono ?_
                rintro e w6 ⟨rfl, rfl⟩
                go_wp2_with fail
                refine (VAh.out _).mono ?_
                rintro e w7 ⟨rfl, b7⟩
                have B7h : Hid (Below Y w w7) := Lib.hid (B5h.out.trans (b7.mono (by have := B5h.out.size; omega)))
                clear b7
                go_wp2_with fail
                go_roundw
                case rel => exact ⟨(i + 1) + 1, by go_num, by omega, N1, B7h.out⟩
                case measure => simp [intOf]; omega
      · obtain rfl : j = n := by omega
        have R := Lib.hid (show true = A by rw [← HA.out]; exact hf.out.symm)
        go_wp2_with fail
        go_ret
        exact ⟨ret_bool R.out, hy ▸ HB.out⟩
  · have h8' : (8 : Int) < (L.length : Int) := by omega
    rw [decide_eq_false h8]
    have FIN := Lib.hid (Below.refl w.heap.size w)
    generalize okTo L L.length = A
    generalize L.length = n at *
    go_enter Tryz.func117, Tryz.ntmps117
    go_wp2_with fail
    go_ret
    exact ⟨rfl, FIN.out⟩
end Go.Proofs.YtkajadkmdcalmaaGreatDoor
/-
  EVENTS THAT MAY BE: event.Check.
-/
namespace Go.Proofs.YtkajadkmdcalmaaGreatDoor
open Go.RowKit
def chkB (a b c : Int) (k : ByteArray) (L : List Fld) : Bool := numB a && (numB b && (numB c && (wordB k && fieldsB L)))
def errI (b : Bool) : Int := if b then 0 else 1
theorem ret_int {x y : Int} (h : x = y) : Ending.returned (.int .i64 x) = .returned (.int .i64 y) := by rw [h]
set_option maxHeartbeats 1000000 in
set_option maxRecDepth 100000 in
theorem check_any (a b c : Int) (k : ByteArray) (p : Option Addr) (cp : Nat) (L : List Fld) (w : World) (hl : L.length ≤ 100) (hk : k.size ≤ 9223372036854775807) (hx : Flds w p L) (hS : ∀ x ∈ L, x.nm.size ≤ 9223372036854775807 ∧ x.v.s.size ≤ 9223372036854775807) :
    Calls Tryz.prog 101 #[evV a b c k (.slice p L.length cp)] w fun e w' => e = .returned (.int .i64 (errI (chkB a b c k L))) ∧ Below w.heap.size w w' := by
  obtain ⟨w1, hw1, K1, B1, hs1⟩ : ∃ w1, w1 = w.alloc (.cells #[.int .i64 a, .int .i64 b, .int .i64 c, .string k, .slice p L.length cp] 46) ∧ Blk w1 w.heap.size 46 #[.int .i64 a, .int .i64 b, .int .i64 c, .string k, .slice p L.length cp] ∧ Below w.heap.size w w1 ∧ w1.heap.size = w.heap.size + 1 :=
    ⟨_, rfl, heap_alloc_new w _, (Below.refl w.heap.size w).alloc (Nat.le_refl _) _, by simp⟩
  have W1 := Lib.hid hw1
  have B1h := Lib.hid B1
  have NA := number_any a
  have NB := number_any b
  have NC := number_any c
  have WK := word_any k hk
  have FA := fields_any p cp L w1 hl (hx.below B1) hS
  have e0 : w1.cell? ⟨w.heap.size, 0, none⟩ = some (.int .i64 a) := K1.cell 0
  have e1 : w1.cell? ⟨w.heap.size, 1, none⟩ = some (.int .i64 b) := K1.cell 1
  have e2 : w1.cell? ⟨w.heap.size, 2, none⟩ = some (.int .i64 c) := K1.cell 2
  have e3 : w1.cell? ⟨w.heap.size, 3, none⟩ = some (.string k) := K1.cell 3
  have e4 : w1.cell? ⟨w.heap.size, 4, none⟩ = some (.slice p L.length cp) := K1.cell 4
  clear hx hS K1 B1 hw1
  unfold chkB errI
  generalize fieldsB L = bF at *
  generalize L.length = n at *
  generalize numB a = bA at *
  generalize numB b = bB at *
  generalize numB c = bC at *
  generalize wordB k = bK at *
  have NAh := Lib.hid NA
  have NBh := Lib.hid NB
  have NCh := Lib.hid NC
  have WKh := Lib.hid WK
  have FAh := Lib.hid FA
  clear NA NB NC WK FA
  generalize hy : w.heap.size = Y at *
  unfold evV
  cases bA
  · go_enter Tryz.func101, Tryz.ntmps101
    go_wp2_with fail
    rw [← W1.out]
    go_wp2_with fail
    refine (NAh.out _).mono ?_
    rintro e w2 ⟨rfl, rfl⟩
    go_wp2_with fail
    go_ret
    exact ⟨rfl, B1h.out⟩
  · skip
    cases bB
    · go_enter Tryz.func101, Tryz.ntmps101
      go_wp2_with fail
      rw [← W1.out]
      go_wp2_with fail
      refine (NAh.out _).mono ?_
      rintro e w2 ⟨rfl, rfl⟩
      go_wp2_with fail
      refine (NBh.out _).mono ?_
      rintro e w3 ⟨rfl, rfl⟩
      go_wp2_with fail
      go_ret
      exact ⟨rfl, B1h.out⟩
    · skip
      cases bC
      · go_enter Tryz.func101, Tryz.ntmps101
        go_wp2_with fail
        rw [← W1.out]
        go_wp2_with fail
        refine (NAh.out _).mono ?_
        rintro e w2 ⟨rfl, rfl⟩
        go_wp2_with fail
        refine (NBh.out _).mono ?_
        rintro e w3 ⟨rfl, rfl⟩
        go_wp2_with fail
        refine (NCh.out _).mono ?_
        rintro e w4 ⟨rfl, rfl⟩
        go_wp2_with fail
        go_ret
        exact ⟨rfl, B1h.out⟩
      · skip
        cases bK
        · go_enter Tryz.func101, Tryz.ntmps101
          go_wp2_with fail
          rw [← W1.out]
          go_wp2_with fail
          refine (NAh.out _).mono ?_
          rintro e w2 ⟨rfl, rfl⟩
          go_wp2_with fail
          refine (NBh.out _).mono ?_
          rintro e w3 ⟨rfl, rfl⟩
          go_wp2_with fail
          refine (NCh.out _).mono ?_
          rintro e w4 ⟨rfl, rfl⟩
          go_wp2_with fail
          refine (WKh.out _).mono ?_
          rintro e w5 ⟨rfl, rfl⟩
          go_wp2_with fail
          go_ret
          exact ⟨rfl, B1h.out⟩
        · skip
          cases bF
          · go_enter Tryz.func101, Tryz.ntmps101
            go_wp2_with fail
            rw [← W1.out]
            go_wp2_with fail
            refine (NAh.out _).mono ?_
            rintro e w2 ⟨rfl, rfl⟩
            go_wp2_with fail
            refine (NBh.out _).mono ?_
            rintro e w3 ⟨rfl, rfl⟩
            go_wp2_with fail
            refine (NCh.out _).mono ?_
            rintro e w4 ⟨rfl, rfl⟩
            go_wp2_with fail
            refine (WKh.out _).mono ?_
            rintro e w5 ⟨rfl, rfl⟩
            go_wp2_with fail
            refine (FAh.out).mono ?_
            rintro e w5 ⟨rfl, b5⟩
            have B5h : Hid (Below Y w w5) := Lib.hid (B1h.out.trans (b5.mono (by omega)))
            clear b5
            go_wp2_with fail
            go_ret
            exact ⟨rfl, B5h.out⟩
          · go_enter Tryz.func101, Tryz.ntmps101
            go_wp2_with fail
            rw [← W1.out]
            go_wp2_with fail
            refine (NAh.out _).mono ?_
            rintro e w2 ⟨rfl, rfl⟩
            go_wp2_with fail
            refine (NBh.out _).mono ?_
            rintro e w3 ⟨rfl, rfl⟩
            go_wp2_with fail
            refine (NCh.out _).mono ?_
            rintro e w4 ⟨rfl, rfl⟩
            go_wp2_with fail
            refine (WKh.out _).mono ?_
            rintro e w5 ⟨rfl, rfl⟩
            go_wp2_with fail
            refine (FAh.out).mono ?_
            rintro e w5 ⟨rfl, b5⟩
            have B5h : Hid (Below Y w w5) := Lib.hid (B1h.out.trans (b5.mono (by omega)))
            clear b5
            go_wp2_with fail
            go_ret
            exact ⟨rfl, B5h.out⟩
end Go.Proofs.YtkajadkmdcalmaaGreatDoor
/-
  PATTERNS, PLAINLY: what is made of the nodes one behind the other; which nodes are one tree.
-/
namespace Go.Proofs.YtkajadkmdcalmaaGreatDoor
open Go.RowKit
structure Cnd where
  nm : ByteArray
  op : Int
  v : Val
structure Nd where
  op : Int
  kind : ByteArray
  conds : List Cnd
  lo : Int
  hi : Int
  kids : List Int
/-- what is made of each node and of what was made of those ahead of it -/
def made {α : Type} (g : Nd → List α → α) (l : List Nd) : List α := l.foldl (fun acc n => acc ++ [g n acc]) []
theorem made_step {α : Type} (g : Nd → List α → α) (l : List Nd) {i : Nat} (h : i < l.length) : made g (l.take (i + 1)) = made g (l.take i) ++ [g l[i] (made g (l.take i))] := by
  unfold made; rw [List.take_succ_eq_append_getElem h, List.foldl_append]; rfl
theorem made_to {α : Type} (g : Nd → List α → α) (l : List Nd) : ∀ i, i ≤ l.length → (made g (l.take i)).length = i
  | 0, _ => rfl
  | i + 1, h => by rw [made_step g l (by omega), List.length_append, made_to g l i (by omega)]; rfl
theorem made_more {α : Type} (g : Nd → List α → α) (l : List Nd) {i k : Nat} (hk : k < i) : ∀ j, i ≤ j → j ≤ l.length → (made g (l.take j))[k]? = (made g (l.take i))[k]?
  | 0, hi, _ => by omega
  | j + 1, hi, hj => by
    by_cases h : i = j + 1
    · rw [h]
    · rw [made_step g l (by omega), List.getElem?_append_left (by rw [made_to g l j (by omega)]; omega)]
      exact made_more g l hk j (by omega) (by omega)
theorem made_take {α : Type} (g : Nd → List α → α) (l : List Nd) {i k : Nat} (hk : k < i) (hi : i ≤ l.length) : (made g (l.take i))[k]? = (made g l)[k]? := by
  have := made_more g l hk l.length hi (Nat.le_refl _)
  rw [List.take_length] at this
  exact this.symm
theorem made_get {α : Type} (g : Nd → List α → α) (l : List Nd) {i : Nat} (h : i < l.length) : (made g l)[i]? = some (g l[i] (made g (l.take i))) := by
  rw [← made_take g l (show i < i + 1 by omega) (by omega), made_step g l h, List.getElem?_append_right (by rw [made_to g l i (by omega)]; omega), made_to g l i (by omega)]
  simp
def emptyG (n : Nd) (acc : List Bool) : Bool :=
  if n.op = 4 then n.lo == 0 else if n.op = 3 then n.kids.any (fun k => acc.getD k.toNat false)
  else if n.op = 2 then n.kids.all (fun k => acc.getD k.toNat false) else n.op == 5
theorem emptyG_eq (n : Nd) (acc : List Bool) : emptyG n acc = (if n.op = 4 then n.lo == 0 else if n.op = 3 then n.kids.any (fun k => acc.getD k.toNat false)
  else if n.op = 2 then n.kids.all (fun k => acc.getD k.toNat false) else n.op == 5) := rfl
def emptyF (l : List Nd) (i : Nat) : Bool := (made emptyG l).getD i false
def deepG (n : Nd) (acc : List Nat) : Nat := 1 + n.kids.foldl (fun m k => max m (acc.getD k.toNat 0)) 0
def deepF (l : List Nd) (i : Nat) : Nat := (made deepG l).getD i 0
/-- all kids of a node stand ahead of it -/
def kidsIn (n : Nd) (i : Nat) : Prop := ∀ k ∈ n.kids, 0 ≤ k ∧ k < i
instance (n : Nd) (i : Nat) : Decidable (kidsIn n i) := by unfold kidsIn; infer_instance
def Ahead (l : List Nd) : Prop := ∀ i (h : i < l.length), kidsIn l[i] i
theorem emptyF_eq {l : List Nd} {i : Nat} (h : i < l.length) (hk : kidsIn l[i] i) :
    emptyF l i = (if l[i].op = 4 then l[i].lo == 0 else if l[i].op = 3 then l[i].kids.any (fun k => emptyF l k.toNat)
      else if l[i].op = 2 then l[i].kids.all (fun k => emptyF l k.toNat) else l[i].op == 5) := by
  have e : ∀ k ∈ l[i].kids, (made emptyG (l.take i)).getD k.toNat false = emptyF l k.toNat := fun k hm => by
    have := hk k hm
    unfold emptyF
    rw [List.getD_eq_getElem?_getD, List.getD_eq_getElem?_getD, made_take emptyG l (show k.toNat < i by omega) (by omega)]
  have a1 : l[i].kids.any (fun k => (made emptyG (l.take i)).getD k.toNat false) = l[i].kids.any (fun k => emptyF l k.toNat) := by
    rw [Bool.eq_iff_iff, List.any_eq_true, List.any_eq_true]
    exact ⟨fun ⟨k, hm, hx⟩ => ⟨k, hm, by rw [← e k hm]; exact hx⟩, fun ⟨k, hm, hx⟩ => ⟨k, hm, by rw [e k hm]; exact hx⟩⟩
  have a2 : l[i].kids.all (fun k => (made emptyG (l.take i)).getD k.toNat false) = l[i].kids.all (fun k => emptyF l k.toNat) := by
    rw [Bool.eq_iff_iff, List.all_eq_true, List.all_eq_true]
    exact ⟨fun H k hm => by rw [← e k hm]; exact H k hm, fun H k hm => by rw [e k hm]; exact H k hm⟩
  conv => lhs; unfold emptyF
  rw [List.getD_eq_getElem?_getD, made_get emptyG l h, Option.getD_some]
  rw [emptyG_eq, a1, a2]
theorem foldl_max_congr {f g : Int → Nat} : ∀ (ks : List Int) (m : Nat), (∀ k ∈ ks, f k = g k) → ks.foldl (fun m k => max m (f k)) m = ks.foldl (fun m k => max m (g k)) m
  | [], _, _ => rfl
  | k :: ks, m, h => by
    rw [List.foldl_cons, List.foldl_cons, h k (by simp)]
    exact foldl_max_congr ks _ fun x hx => h x (by simp [hx])
theorem deepF_eq {l : List Nd} {i : Nat} (h : i < l.length) (hk : kidsIn l[i] i) :
    deepF l i = 1 + l[i].kids.foldl (fun m k => max m (deepF l k.toNat)) 0 := by
  have e : ∀ k ∈ l[i].kids, (made deepG (l.take i)).getD k.toNat 0 = deepF l k.toNat := fun k hm => by
    have := hk k hm
    unfold deepF
    rw [List.getD_eq_getElem?_getD, List.getD_eq_getElem?_getD, made_take deepG l (show k.toNat < i by omega) (by omega)]
  conv => lhs; unfold deepF
  rw [List.getD_eq_getElem?_getD, made_get deepG l h, Option.getD_some]
  show 1 + _ = _
  rw [foldl_max_congr _ _ e]
theorem foldl_max_le {f : Int → Nat} : ∀ (ks : List Int) (m b : Nat), m ≤ b → (∀ k ∈ ks, f k ≤ b) → ks.foldl (fun m k => max m (f k)) m ≤ b
  | [], _, _, hm, _ => hm
  | k :: ks, m, b, hm, h => by
    rw [List.foldl_cons]
    exact foldl_max_le ks _ b (Nat.max_le.2 ⟨hm, h k (by simp)⟩) fun x hx => h x (by simp [hx])
theorem deepF_le {l : List Nd} (hA : Ahead l) : ∀ i, i < l.length → deepF l i ≤ i + 1 := by
  intro i
  induction i using Nat.strongRecOn with
  | ind i ih =>
    intro h
    rw [deepF_eq h (hA i h)]
    have := foldl_max_le (f := fun k => deepF l k.toNat) l[i].kids 0 i (Nat.zero_le _) fun k hm => by
      have hk := hA i h k hm
      exact Nat.le_trans (ih k.toNat (by omega) (by omega)) (by omega)
    omega
end Go.Proofs.YtkajadkmdcalmaaGreatDoor
/-
  WHICH NODES ARE ONE TREE: kids are taken one behind the other, none twice; how many are left.
-/
namespace Go.Proofs.YtkajadkmdcalmaaGreatDoor
open Go.RowKit
def kidsTo (l : List Nd) (j : Nat) : List Int := (l.take j).flatMap (·.kids)
def takeOk : List Int → Nat → List Int → Bool
  | _, _, [] => true
  | T, j, k :: ks => decide (0 ≤ k ∧ k < (j : Int)) && !T.contains k && takeOk (T ++ [k]) j ks
theorem kidsTo_succ {l : List Nd} {j : Nat} (h : j < l.length) : kidsTo l (j + 1) = kidsTo l j ++ l[j].kids := by
  unfold kidsTo; rw [List.take_succ_eq_append_getElem h, List.flatMap_append]; simp
theorem takeOk_in : ∀ {ks T : List Int} {j : Nat}, takeOk T j ks = true → ∀ k ∈ ks, 0 ≤ k ∧ k < (j : Int)
  | [], _, _, _, _, hm => by simp at hm
  | k :: ks, T, j, h, x, hm => by
    unfold takeOk at h
    rw [Bool.and_eq_true, Bool.and_eq_true, decide_eq_true_iff] at h
    rcases List.mem_cons.1 hm with rfl | hm
    · exact h.1.1
    · exact takeOk_in h.2 x hm
theorem takeOk_nodup : ∀ {ks T : List Int} {j : Nat}, T.Nodup → takeOk T j ks = true → (T ++ ks).Nodup
  | [], T, _, hT, _ => by simpa using hT
  | k :: ks, T, j, hT, h => by
    unfold takeOk at h
    rw [Bool.and_eq_true, Bool.and_eq_true] at h
    have hk : k ∉ T := by simpa using h.1.2
    have := takeOk_nodup (ks := ks) (T := T ++ [k]) (j := j) (by
      rw [List.nodup_append]
      exact ⟨hT, by simp, fun a ha b hb e => by simp at hb; subst hb; subst e; exact hk ha⟩) h.2
    simpa using this
/-- all kids of the first nodes can be taken -/
def takeAll (l : List Nd) (j : Nat) : Bool := (List.range j).all fun i => takeOk (kidsTo l i) i ((l.map (·.kids)).getD i [])
theorem takeAll_succ {l : List Nd} {j : Nat} (h : j < l.length) : takeAll l (j + 1) = (takeAll l j && takeOk (kidsTo l j) j l[j].kids) := by
  unfold takeAll
  rw [List.range_succ, List.all_append]
  simp [List.getD_eq_getElem?_getD, h]
theorem takeAll_false {l : List Nd} : ∀ {j n : Nat}, j ≤ n → takeAll l j = false → takeAll l n = false := fun {j n} hj h => by
  unfold takeAll at *
  rw [List.all_eq_false] at *
  obtain ⟨x, hx, e⟩ := h
  exact ⟨x, by simp at *; omega, e⟩
theorem takeAll_nodup {l : List Nd} : ∀ {j : Nat}, j ≤ l.length → takeAll l j = true → (kidsTo l j).Nodup ∧ ∀ k ∈ kidsTo l j, 0 ≤ k ∧ k + 1 < (j : Int)
  | 0, _, _ => by simp [kidsTo]
  | j + 1, hj, h => by
    rw [takeAll_succ (by omega), Bool.and_eq_true] at h
    obtain ⟨i1, i2⟩ := takeAll_nodup (by omega) h.1
    rw [kidsTo_succ (by omega)]
    refine ⟨takeOk_nodup i1 h.2, fun k hk => ?_⟩
    rcases List.mem_append.1 hk with hk | hk
    · have := i2 k hk; omega
    · have := takeOk_in h.2 k hk; omega
theorem takeAll_ahead {l : List Nd} (h : takeAll l l.length = true) : Ahead l := fun i hi k hk => by
  unfold takeAll at h
  rw [List.all_eq_true] at h
  have := h i (by simpa using hi)
  simp only [List.getD_eq_getElem?_getD, List.getElem?_map, List.getElem?_eq_getElem hi, Option.map_some, Option.getD_some] at this
  exact takeOk_in this k hk
/-- the numbers that are left -/
def leftN (T : List Int) (n : Nat) : List Nat := (List.range n).filter fun (k : Nat) => !T.contains (k : Int)
theorem left_len : ∀ (n : Nat) {T : List Int}, T.Nodup → (∀ k ∈ T, 0 ≤ k ∧ k < (n : Int)) → (leftN T n).length + T.length = n
  | 0, T, _, h => by
    have : T = [] := by
      cases T with
      | nil => rfl
      | cons k T => have := h k (by simp); omega
    simp [leftN, this]
  | n + 1, T, hd, h => by
    have e : leftN T (n + 1) = leftN T n ++ (if T.contains (n : Int) then [] else [n]) := by
      unfold leftN
      rw [List.range_succ, List.filter_append]
      congr 1
      by_cases hc : T.contains (n : Int) = true
      · simp [hc] at *
        simp [hc]
      · simp at hc
        simp [hc]
    by_cases hc : (n : Int) ∈ T
    · have i1 := left_len n (T := T.erase (n : Int)) (hd.erase _) fun k hk => by
        have h1 := h k (List.mem_of_mem_erase hk)
        have h2 : k ≠ n := fun e => by subst e; exact (List.Nodup.not_mem_erase hd) hk
        omega
      have e2 : leftN (T.erase (n : Int)) n = leftN T n := by
        unfold leftN
        refine List.filter_congr fun x hx => ?_
        have hx' : x < n := by simpa using hx
        have : ((x : Int) ∈ T.erase (n : Int)) ↔ (x : Int) ∈ T := List.mem_erase_of_ne (by omega)
        simp [this]
      rw [e2, List.length_erase_of_mem hc] at i1
      have := List.length_pos_of_mem hc
      rw [e, if_pos (by simpa using hc)]
      simp; omega
    · have i1 := left_len n (T := T) hd fun k hk => by
        have h1 := h k hk
        have h2 : k ≠ n := fun e => by subst e; exact hc hk
        omega
      rw [e, if_neg (by simpa using hc)]
      simp; omega
/-- where one is left it is the last one -/
theorem left_one {l : List Nd} (h : takeAll l l.length = true) (h0 : 0 < l.length) :
    (leftN (kidsTo l l.length) l.length).length + (kidsTo l l.length).length = l.length ∧ (l.length - 1) ∈ leftN (kidsTo l l.length) l.length := by
  obtain ⟨a, b⟩ := takeAll_nodup (Nat.le_refl _) h
  refine ⟨left_len _ a fun k hk => by have := b k hk; omega, ?_⟩
  unfold leftN
  rw [List.mem_filter]
  refine ⟨by simp; omega, ?_⟩
  simp only [Bool.not_eq_eq_eq_not, Bool.not_true, List.contains_eq_mem, decide_eq_false_iff_not]
  intro hm
  have := b _ hm
  omega
end Go.Proofs.YtkajadkmdcalmaaGreatDoor
/-
  WHICH CONDITIONS, NODES AND PATTERNS MAY BE, PLAINLY.
-/
namespace Go.Proofs.YtkajadkmdcalmaaGreatDoor
open Go.RowKit
def anyK : ByteArray := ⟨#[97, 110, 121]⟩
def withinK : ByteArray := ⟨#[119, 105, 116, 104, 105, 110]⟩
/-- no quote, no end of a line -/
def noQ (s : ByteArray) : Bool := (bl s).all fun b => !(b == 39 || b == 10 || b == 13)
/-- the value of a condition: its kind's own -/
def cvB (v : Val) : Bool :=
  if v.k = 1 then decide (-1000000000000000000 < v.n ∧ v.n < 1000000000000000000)
  else if v.k = 2 then !isNan v.f || v.f == 9221120237041090561
  else noQ v.s
def condB (c : Cnd) : Bool := decide (1 ≤ c.op ∧ c.op ≤ 6) && (wordB c.nm && mayB c.v) && cvB c.v
def kindB (k : ByteArray) : Bool := (decide (k.size = 0) || wordB k) && !(decide (k = anyK) || decide (k = withinK))
def opAt (l : List Nd) (k : Int) : Int := (l[k.toNat]?.map (·.op)).getD 0
def isGuard (l : List Nd) (k : Int) : Bool := opAt l k == 5
def bareB (n : Nd) : Bool := decide (n.kind.size = 0) && n.conds.isEmpty
def timeB (n : Nd) : Bool := n.lo == 0 && n.hi == 0
def atomB (n : Nd) : Bool := kindB n.kind && decide (n.conds.length ≤ 4) && n.conds.all condB && (timeB n && n.kids.isEmpty)
def seqB (l : List Nd) (n : Nd) : Bool := bareB n && timeB n && decide (2 ≤ n.kids.length) && !isGuard l (n.kids.headD 0) && !isGuard l (n.kids.getLastD 0)
def altB (l : List Nd) (n : Nd) : Bool := bareB n && timeB n && decide (2 ≤ n.kids.length) && !n.kids.any (isGuard l)
def loB' (lo hi : Int) : Bool := decide (0 ≤ lo ∧ lo ≤ 8) && (hi == -1 || decide (max 1 lo ≤ hi ∧ hi ≤ 8))
def loB (n : Nd) : Bool := loB' n.lo n.hi
def loopB (l : List Nd) (n : Nd) : Bool := bareB n && decide (n.kids.length = 1) && !isGuard l (n.kids.headD 0) && !emptyF l (n.kids.headD 0).toNat && loB n
def guardB (l : List Nd) (n : Nd) : Bool := bareB n && timeB n && decide (n.kids.length = 1) && opAt l (n.kids.headD 0) == 1
def ruleB (l : List Nd) (n : Nd) : Bool :=
  if n.op = 1 then atomB n else if n.op = 2 then seqB l n else if n.op = 3 then altB l n else if n.op = 4 then loopB l n else if n.op = 5 then guardB l n else false
/-- all that stand ahead may be, and can be taken -/
def stepB (l : List Nd) (i : Nat) : Bool := takeOk (kidsTo l i) i ((l.map (·.kids)).getD i []) && ((l[i]?).map (ruleB l)).getD false
def growTo (l : List Nd) (j : Nat) : Bool := (List.range j).all (stepB l)
def rootB (l : List Nd) : Bool := !isGuard l ((l.length : Int) - 1) && !emptyF l (l.length - 1) && decide (deepF l (l.length - 1) ≤ 12)
/-- Check: 0, 2 (too long), 100 (none that may be) -/
def treeB (l : List Nd) (within : Int) : Bool := decide (0 ≤ within ∧ within ≤ 549755813888) && growTo l l.length && decide ((leftN (kidsTo l l.length) l.length).length = 1) && rootB l
def chkI (l : List Nd) (within : Int) : Int := if 64 < l.length then 2 else if treeB l within then 0 else 100
/-- as the document has it -/
def rtreeB (l : List Nd) : Bool := takeAll l l.length && decide ((kidsTo l l.length).length + 1 = l.length)
def roneB (l : List Nd) : Bool := l.all (ruleB l)
def rtreeAll (l : List Nd) (within : Int) : Bool := decide (0 ≤ within ∧ within ≤ 549755813888) && rtreeB l && (rootB l && roneB l)
theorem growTo_succ {l : List Nd} {j : Nat} (h : j < l.length) : growTo l (j + 1) = (growTo l j && (takeOk (kidsTo l j) j l[j].kids && ruleB l l[j])) := by
  unfold growTo
  rw [List.range_succ, List.all_append]
  simp [stepB, List.getD_eq_getElem?_getD, h]
theorem growTo_false {l : List Nd} {j n : Nat} (hj : j ≤ n) (h : growTo l j = false) : growTo l n = false := by
  unfold growTo at *
  rw [List.all_eq_false] at *
  obtain ⟨x, hx, e⟩ := h
  exact ⟨x, by simp at *; omega, e⟩
theorem growTo_eq {l : List Nd} : ∀ {j : Nat}, j ≤ l.length → growTo l j = (takeAll l j && (l.take j).all (ruleB l))
  | 0, _ => by simp [growTo, takeAll]
  | j + 1, h => by
    rw [growTo_succ (by omega), growTo_eq (by omega), takeAll_succ (by omega), List.take_succ_eq_append_getElem (by omega), List.all_append]
    simp
    cases takeAll l j <;> cases ((l.take j).all (ruleB l)) <;> simp
theorem tree_same (l : List Nd) (within : Int) : treeB l within = (rtreeAll l within) := by
  unfold treeB rtreeAll rtreeB roneB
  rw [growTo_eq (Nat.le_refl _), List.take_length]
  by_cases ht : takeAll l l.length = true
  · rw [ht]
    have e : decide ((leftN (kidsTo l l.length) l.length).length = 1) = decide ((kidsTo l l.length).length + 1 = l.length) := by
      obtain ⟨a, b⟩ := takeAll_nodup (Nat.le_refl _) ht
      have := left_len l.length a fun k hk => by have := b k hk; omega
      by_cases h : (kidsTo l l.length).length + 1 = l.length
      · rw [decide_eq_true h, decide_eq_true (by omega)]
      · rw [decide_eq_false h, decide_eq_false (by omega)]
    rw [e]
    cases decide (0 ≤ within ∧ within ≤ 549755813888) <;> cases l.all (ruleB l) <;> cases decide ((kidsTo l l.length).length + 1 = l.length) <;> cases rootB l <;> rfl
  · rw [Bool.not_eq_true] at ht
    rw [ht]
    simp
end Go.Proofs.YtkajadkmdcalmaaGreatDoor
