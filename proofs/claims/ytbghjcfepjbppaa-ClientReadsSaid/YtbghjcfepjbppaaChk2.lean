/-
  FIELDS THAT MAY BE: event.fields.
-/
import Derived.Test.YtbghjcfepjbppaaChk1
import Derived.Test.YtbghjcfepjbppaaEvm
import Derived.Deep.QuietTactic
import Derived.BigQuiet
import Derived.WalkSmall
namespace Go.Proofs.Ytbghjcfepjbppaa
open Go.RowKit
def prevN (L : List Fld) (i : Nat) : ByteArray := ((L[i - 1]?).map (·.nm)).getD ⟨#[]⟩
def okAt (L : List Fld) (i : Nat) : Bool :=
  match L[i]? with
  | none => true
  | some x => (decide (i = 0) || ltS (prevN L i) x.nm) && (wordB x.nm && mayB x.v)
def okTo (L : List Fld) (j : Nat) : Bool := (List.range j).all (okAt L)
def fieldsB (L : List Fld) : Bool := decide (L.length ≤ 8) && okTo L L.length
theorem okTo_succ (L : List Fld) (j : Nat) : okTo L (j + 1) = (okTo L j && okAt L j) := by simp [okTo, List.range_succ]
theorem okTo_false {L : List Fld} {j n : Nat} (hj : j < n) (h : okAt L j = false) : okTo L n = false := by
  unfold okTo
  rw [List.all_eq_false]
  exact ⟨j, List.mem_range.2 hj, by rw [h]; decide⟩
theorem okAt_zero {L : List Fld} (h : 0 < L.length) : okAt L 0 = (wordB L[0].nm && mayB L[0].v) := by
  unfold okAt
  rw [List.getElem?_eq_getElem h]
  simp
theorem okAt_succ {L : List Fld} {i : Nat} (h : i + 1 < L.length) : okAt L (i + 1) = (ltS (L[i]'(by omega)).nm L[i + 1].nm && (wordB L[i + 1].nm && mayB L[i + 1].v)) := by
  unfold okAt prevN
  rw [List.getElem?_eq_getElem h, Nat.add_sub_cancel, List.getElem?_eq_getElem (show i < L.length by omega)]
  simp
set_option maxHeartbeats 1000000 in
set_option maxRecDepth 100000 in
theorem fields_any (p : Option Addr) (cp : Nat) (L : List Fld) (w : World) (hl : L.length ≤ 100) (hx : Flds w p L) (hS : ∀ x ∈ L, x.nm.size ≤ 9223372036854775807 ∧ x.v.s.size ≤ 9223372036854775807) :
    Calls Try.prog 71 #[.slice p L.length cp] w fun e w' => e = .returned (.bool (fieldsB L)) ∧ Below w.heap.size w w' := by
  unfold fieldsB
  by_cases h8 : L.length ≤ 8
  · have h8' : ¬ (8 : Int) < (L.length : Int) := by omega
    rw [decide_eq_true h8]
    have X2h := Lib.hid hx
    have HS := Lib.hid hS
    generalize hA : okTo L L.length = A
    have HA := Lib.hid hA
    generalize hn : L.length = n at *
    have HN := Lib.hid hn
    have BR := Lib.hid (Below.refl w.heap.size w)
    clear hn hx hS hA
    generalize hy : w.heap.size = Y at *
    rw [Bool.true_and]
    go_enter Try.func71, Try.ntmps71
    go_wp2_with fail
    go_loopw [11] (fun i wq => ∃ j : Nat, i = .int .i64 j ∧ j ≤ n ∧ Hid (okTo L j = true) ∧ Below Y w wq) (fun i _ => n - (intOf i).toNat)
    case atStart => exact ⟨0, rfl, Nat.zero_le _, Lib.hid rfl, BR.out⟩
    case round =>
      obtain ⟨j, rfl, hj, hf, hB⟩ := hrel
      have HB := Lib.hid hB
      clear hB
      by_cases hjn : j < n
      · have hjL : j < L.length := by rw [HN.out]; exact hjn
        obtain ⟨g0, o, rfl, hg0, c0, c1, c2, c3, c4⟩ := X2h.out j hjL
        have hgY : g0 < Y := by rw [← hy]; exact hg0
        rw [← HB.out.cell (p := ⟨g0, _, none⟩) hgY] at c0 c1 c2 c3 c4
        have SZ := Lib.hid (HS.out L[j] (List.getElem_mem hjL))
        have OT := Lib.hid (okTo_succ L j)
        have OF := Lib.hid (fun h => HA.out.symm.trans (okTo_false (L := L) hjn h))
        rcases j with _ | i
        · have E0 := Lib.hid (okAt_zero hjL)
          generalize L[0] = x at *
          obtain ⟨xn, xk, xm, xf, xs⟩ := x
          simp only at c0 c1 c2 c3 c4 E0 SZ
          have WA := word_any xn SZ.out.1
          have VA := value_any ⟨xk, xm, xf, xs⟩ SZ.out.2
          unfold Val.val at VA
          simp only at VA
          obtain ⟨w3, hw3, N3, B3⟩ : ∃ w3, w3 = wr.alloc (.cells #[.string xn, .int .i64 xk, .int .i64 xm, .float .f64 xf, .string xs] 105) ∧ Blk w3 wr.heap.size 105 #[.string xn, .int .i64 xk, .int .i64 xm, .float .f64 xf, .string xs] ∧ Below wr.heap.size wr w3 :=
            ⟨_, rfl, heap_alloc_new wr _, (Below.refl _ wr).alloc (Nat.le_refl _) _⟩
          have W3 := Lib.hid hw3
          have B3h : Hid (Below Y w w3) := Lib.hid (HB.out.trans (B3.mono (by have := HB.out.size; omega)))
          have N3h := Lib.hid N3
          clear hw3 N3 B3
          simp only [Nat.zero_mul, Nat.add_zero] at c0 c1 c2 c3 c4
          rw [show ((0 : Nat) : Int) = 0 from rfl]
          cases hw : wordB xn
          · have R := Lib.hid (show false = A from (OF.out (E0.out.trans (by rw [hw]; rfl))).symm)
            rw [hw] at WA
            clear hw
            have WAh := Lib.hid WA
            clear VA WA
            go_wp2_with fail
            rw [← W3.out]
            go_quiet (fail)
            have N5 : Blk (w3.drewN nq) wr.heap.size 105 #[.string xn, .int .i64 xk, .int .i64 xm, .float .f64 xf, .string xs] := N3h.out
            have B5h : Hid (Below Y w (w3.drewN nq)) := Lib.hid (below_drewN B3h.out nq)
            generalize w3.drewN nq = w5 at *
            have m0 : w5.cell? ⟨wr.heap.size, 0, none⟩ = some (.string xn) := N5.cell 0
            have m1 : w5.cell? ⟨wr.heap.size, 1, none⟩ = some (.int .i64 xk) := N5.cell 1
            have m2 : w5.cell? ⟨wr.heap.size, 2, none⟩ = some (.int .i64 xm) := N5.cell 2
            have m3 : w5.cell? ⟨wr.heap.size, 3, none⟩ = some (.float .f64 xf) := N5.cell 3
            have m4 : w5.cell? ⟨wr.heap.size, 4, none⟩ = some (.string xs) := N5.cell 4
            clear N5
            go_wp2_with fail
            refine (WAh.out _).mono ?_
            rintro e w6 ⟨rfl, rfl⟩
            go_wp2_with fail
            go_ret
            exact ⟨ret_bool R.out, hy ▸ B5h.out⟩
          · cases hv : mayB ⟨xk, xm, xf, xs⟩
            · have R := Lib.hid (show false = A from (OF.out (E0.out.trans (by rw [hw, hv]; rfl))).symm)
              rw [hw] at WA
              rw [hv] at VA
              clear hw hv
              have WAh := Lib.hid WA
              have VAh := Lib.hid VA
              clear VA WA
              go_wp2_with fail
              rw [← W3.out]
              go_quiet (fail)
              have N5 : Blk (w3.drewN nq) wr.heap.size 105 #[.string xn, .int .i64 xk, .int .i64 xm, .float .f64 xf, .string xs] := N3h.out
              have B5h : Hid (Below Y w (w3.drewN nq)) := Lib.hid (below_drewN B3h.out nq)
              generalize w3.drewN nq = w5 at *
              have m0 : w5.cell? ⟨wr.heap.size, 0, none⟩ = some (.string xn) := N5.cell 0
              have m1 : w5.cell? ⟨wr.heap.size, 1, none⟩ = some (.int .i64 xk) := N5.cell 1
              have m2 : w5.cell? ⟨wr.heap.size, 2, none⟩ = some (.int .i64 xm) := N5.cell 2
              have m3 : w5.cell? ⟨wr.heap.size, 3, none⟩ = some (.float .f64 xf) := N5.cell 3
              have m4 : w5.cell? ⟨wr.heap.size, 4, none⟩ = some (.string xs) := N5.cell 4
              clear N5
              go_wp2_with fail
              refine (WAh.out _).mono ?_
              rintro e w6 ⟨rfl, rfl⟩
              go_wp2_with fail
              refine (VAh.out _).mono ?_
              rintro e w7 ⟨rfl, b7⟩
              have B7h : Hid (Below Y w w7) := Lib.hid (B5h.out.trans (b7.mono (by have := B5h.out.size; omega)))
              clear b7
              go_wp2_with fail
              go_ret
              exact ⟨ret_bool R.out, hy ▸ B7h.out⟩
            · have N1 : Hid (okTo L (0 + 1) = true) := Lib.hid (by rw [OT.out, hf.out, E0.out, hw, hv]; rfl)
              rw [hw] at WA
              rw [hv] at VA
              clear hw hv
              have WAh := Lib.hid WA
              have VAh := Lib.hid VA
              clear VA WA
              go_wp2_with fail
              rw [← W3.out]
              go_quiet (fail)
              have N5 : Blk (w3.drewN nq) wr.heap.size 105 #[.string xn, .int .i64 xk, .int .i64 xm, .float .f64 xf, .string xs] := N3h.out
              have B5h : Hid (Below Y w (w3.drewN nq)) := Lib.hid (below_drewN B3h.out nq)
              generalize w3.drewN nq = w5 at *
              have m0 : w5.cell? ⟨wr.heap.size, 0, none⟩ = some (.string xn) := N5.cell 0
              have m1 : w5.cell? ⟨wr.heap.size, 1, none⟩ = some (.int .i64 xk) := N5.cell 1
              have m2 : w5.cell? ⟨wr.heap.size, 2, none⟩ = some (.int .i64 xm) := N5.cell 2
              have m3 : w5.cell? ⟨wr.heap.size, 3, none⟩ = some (.float .f64 xf) := N5.cell 3
              have m4 : w5.cell? ⟨wr.heap.size, 4, none⟩ = some (.string xs) := N5.cell 4
              clear N5
              go_wp2_with fail
              refine (WAh.out _).mono ?_
              rintro e w6 ⟨rfl, rfl⟩
              go_wp2_with fail
              refine (VAh.out _).mono ?_
              rintro e w7 ⟨rfl, b7⟩
              have B7h : Hid (Below Y w w7) := Lib.hid (B5h.out.trans (b7.mono (by have := B5h.out.size; omega)))
              clear b7
              go_wp2_with fail
              go_roundw
              case rel => exact ⟨0 + 1, by go_num, by omega, N1, B7h.out⟩
              case measure => simp [intOf]; omega
        · have hiL : i < L.length := by omega
          have hin : i < n := by omega
          obtain ⟨g0', o', he, _, d0, _, _, _, _⟩ := X2h.out i hiL
          obtain ⟨rfl, rfl⟩ : g0' = g0 ∧ o' = o := by simp only [Option.some.injEq, Addr.mk.injEq, and_true] at he; exact ⟨he.1.symm, he.2.symm⟩
          clear he
          rw [← HB.out.cell (p := ⟨g0', _, none⟩) hgY] at d0
          have E0 := Lib.hid (okAt_succ hjL)
          generalize L[i + 1] = x at *
          generalize L[i] = y at *
          obtain ⟨xn, xk, xm, xf, xs⟩ := x
          obtain ⟨yn, yk, ym, yf, ys⟩ := y
          simp only at c0 c1 c2 c3 c4 E0 SZ d0
          have WA := word_any xn SZ.out.1
          have VA := value_any ⟨xk, xm, xf, xs⟩ SZ.out.2
          unfold Val.val at VA
          simp only at VA
          obtain ⟨w3, hw3, N3, B3, d3⟩ : ∃ w3, w3 = wr.alloc (.cells #[.string xn, .int .i64 xk, .int .i64 xm, .float .f64 xf, .string xs] 105) ∧ Blk w3 wr.heap.size 105 #[.string xn, .int .i64 xk, .int .i64 xm, .float .f64 xf, .string xs] ∧ Below wr.heap.size wr w3 ∧ w3.cell? ⟨g0', o' + i * 5, none⟩ = some (.string yn) :=
            ⟨_, rfl, heap_alloc_new wr _, (Below.refl _ wr).alloc (Nat.le_refl _) _, by rw [World.cell?_alloc_lt _ _ _ (World.block_lt_of_cell? _ _ d0)]; exact d0⟩
          have W3 := Lib.hid hw3
          have B3h : Hid (Below Y w w3) := Lib.hid (HB.out.trans (B3.mono (by have := HB.out.size; omega)))
          have N3h := Lib.hid N3
          have n3 : w3.cell? ⟨wr.heap.size, 0, none⟩ = some (.string xn) := N3.cell 0
          have z1 : (((i + 1 : Nat) : Int) == 0) = false := by simp; omega
          have z2 : (((i : Int) + 1) == 0) = false := by simp; omega
          have hwp : IntKind.i64.wrap ((i : Int) + 1 - 1) = (i : Int) := by rw [Int.add_sub_cancel]; exact IntWalk.i64_in _ (by omega)
          have hwq : IntKind.i64.wrap (((i + 1 : Nat) : Int) - 1) = (i : Int) := by rw [show (((i + 1 : Nat) : Int) - 1) = (i : Int) by omega]; exact IntWalk.i64_in _ (by omega)
          clear hw3 N3 B3 d0
          cases hlt : ltS yn xn
          · have R := Lib.hid (show false = A from (OF.out (E0.out.trans (by rw [hlt]; rfl))).symm)
            unfold ltS at hlt
            clear VA WA
            go_wp2_with fail
            rw [← W3.out]
            go_quiet (fail)
            have B5h : Hid (Below Y w (w3.drewN nq)) := Lib.hid (below_drewN B3h.out nq)
            generalize w3.drewN nq = w5 at *
            go_wp2_with fail
            go_ret
            exact ⟨ret_bool R.out, hy ▸ B5h.out⟩
          · have hlt' := hlt
            unfold ltS at hlt'
            cases hw : wordB xn
            · have R := Lib.hid (show false = A from (OF.out (E0.out.trans (by rw [hw]; cases ltS yn xn <;> rfl))).symm)
              rw [hw] at WA
              clear hw
              have WAh := Lib.hid WA
              clear VA WA
              go_wp2_with fail
              rw [← W3.out]
              go_quiet (fail)
              have N5 : Blk (w3.drewN nq) wr.heap.size 105 #[.string xn, .int .i64 xk, .int .i64 xm, .float .f64 xf, .string xs] := N3h.out
              have B5h : Hid (Below Y w (w3.drewN nq)) := Lib.hid (below_drewN B3h.out nq)
              generalize w3.drewN nq = w5 at *
              have m0 : w5.cell? ⟨wr.heap.size, 0, none⟩ = some (.string xn) := N5.cell 0
              have m1 : w5.cell? ⟨wr.heap.size, 1, none⟩ = some (.int .i64 xk) := N5.cell 1
              have m2 : w5.cell? ⟨wr.heap.size, 2, none⟩ = some (.int .i64 xm) := N5.cell 2
              have m3 : w5.cell? ⟨wr.heap.size, 3, none⟩ = some (.float .f64 xf) := N5.cell 3
              have m4 : w5.cell? ⟨wr.heap.size, 4, none⟩ = some (.string xs) := N5.cell 4
              clear N5
              go_wp2_with fail
              refine (WAh.out _).mono ?_
              rintro e w6 ⟨rfl, rfl⟩
              go_wp2_with fail
              go_ret
              exact ⟨ret_bool R.out, hy ▸ B5h.out⟩
            · cases hv : mayB ⟨xk, xm, xf, xs⟩
              · have R := Lib.hid (show false = A from (OF.out (E0.out.trans (by rw [hw, hv]; cases ltS yn xn <;> rfl))).symm)
                rw [hw] at WA
                rw [hv] at VA
                clear hw hv
                have WAh := Lib.hid WA
                have VAh := Lib.hid VA
                clear VA WA
                go_wp2_with fail
                rw [← W3.out]
                go_quiet (fail)
                have N5 : Blk (w3.drewN nq) wr.heap.size 105 #[.string xn, .int .i64 xk, .int .i64 xm, .float .f64 xf, .string xs] := N3h.out
                have B5h : Hid (Below Y w (w3.drewN nq)) := Lib.hid (below_drewN B3h.out nq)
                generalize w3.drewN nq = w5 at *
                have m0 : w5.cell? ⟨wr.heap.size, 0, none⟩ = some (.string xn) := N5.cell 0
                have m1 : w5.cell? ⟨wr.heap.size, 1, none⟩ = some (.int .i64 xk) := N5.cell 1
                have m2 : w5.cell? ⟨wr.heap.size, 2, none⟩ = some (.int .i64 xm) := N5.cell 2
                have m3 : w5.cell? ⟨wr.heap.size, 3, none⟩ = some (.float .f64 xf) := N5.cell 3
                have m4 : w5.cell? ⟨wr.heap.size, 4, none⟩ = some (.string xs) := N5.cell 4
                clear N5
                go_wp2_with fail
                refine (WAh.out _).mono ?_
                rintro e w6 ⟨rfl, rfl⟩
                go_wp2_with fail
                refine (VAh.out _).mono ?_
                rintro e w7 ⟨rfl, b7⟩
                have B7h : Hid (Below Y w w7) := Lib.hid (B5h.out.trans (b7.mono (by have := B5h.out.size; omega)))
                clear b7
                go_wp2_with fail
                go_ret
                exact ⟨ret_bool R.out, hy ▸ B7h.out⟩
              · have N1 : Hid (okTo L ((i + 1) + 1) = true) := Lib.hid (by rw [OT.out, hf.out, E0.out, hlt, hw, hv]; rfl)
                rw [hw] at WA
                rw [hv] at VA
                clear hw hv
                have WAh := Lib.hid WA
                have VAh := Lib.hid VA
                clear VA WA
                go_wp2_with fail
                rw [← W3.out]
                go_quiet (fail)
                have N5 : Blk (w3.drewN nq) wr.heap.size 105 #[.string xn, .int .i64 xk, .int .i64 xm, .float .f64 xf, .string xs] := N3h.out
                have B5h : Hid (Below Y w (w3.drewN nq)) := Lib.hid (below_drewN B3h.out nq)
                generalize w3.drewN nq = w5 at *
                have m0 : w5.cell? ⟨wr.heap.size, 0, none⟩ = some (.string xn) := N5.cell 0
                have m1 : w5.cell? ⟨wr.heap.size, 1, none⟩ = some (.int .i64 xk) := N5.cell 1
                have m2 : w5.cell? ⟨wr.heap.size, 2, none⟩ = some (.int .i64 xm) := N5.cell 2
                have m3 : w5.cell? ⟨wr.heap.size, 3, none⟩ = some (.float .f64 xf) := N5.cell 3
                have m4 : w5.cell? ⟨wr.heap.size, 4, none⟩ = some (.string xs) := N5.cell 4
                clear N5
                go_wp2_with fail
                refine (WAh.out _).mono ?_
                rintro e w6 ⟨rfl, rfl⟩
                go_wp2_with fail
                refine (VAh.out _).mono ?_
                rintro e w7 ⟨rfl, b7⟩
                have B7h : Hid (Below Y w w7) := Lib.hid (B5h.out.trans (b7.mono (by have := B5h.out.size; omega)))
                clear b7
                go_wp2_with fail
                go_roundw
                case rel => exact ⟨(i + 1) + 1, by go_num, by omega, N1, B7h.out⟩
                case measure => simp [intOf]; omega
      · obtain rfl : j = n := by omega
        have R := Lib.hid (show true = A by rw [← HA.out]; exact hf.out.symm)
        go_wp2_with fail
        go_ret
        exact ⟨ret_bool R.out, hy ▸ HB.out⟩
  · have h8' : (8 : Int) < (L.length : Int) := by omega
    rw [decide_eq_false h8]
    have FIN := Lib.hid (Below.refl w.heap.size w)
    generalize okTo L L.length = A
    generalize L.length = n at *
    go_enter Try.func71, Try.ntmps71
    go_wp2_with fail
    go_ret
    exact ⟨rfl, FIN.out⟩
end Go.Proofs.Ytbghjcfepjbppaa
