/-
  AWAKE; THE LAW KeepWrites AS A WALK.
-/
import Derived.Test.YtifdljdnpdefgaaRwr
import Derived.Test.YtifdljdnpdefgaaCnw
namespace Go.Proofs.Ytifdljdnpdefgaa
open Go.RowKit
theorem ret_bool {a b : Bool} (h : a = b) : Ending.returned (.bool a) = .returned (.bool b) := by rw [h]
def wS (c t l : Int) (L : List Rn) : ByteArray := if keepB c t l L = true then textS c t l L else ⟨#[]⟩
def wE (c t l : Int) (L : List Rn) : Int := if keepB c t l L = true then 0 else 1
/-- what a run's cells can hold -/
def Rok (r : Rn) : Prop := r.P.length ≤ 140737488355328 ∧ r.t ≤ 9223372036854775807 ∧ 0 ≤ r.n ∧ r.n < 18446744073709551616
def Wrote (w : World) (c t l : Int) (L : List Rn) (e : Ending) (w' : World) : Prop := e = .returned (.tuple #[.string (wS c t l L), .int .i64 (wE c t l L)]) ∧ Below w.heap.size w w'
theorem write_any {c t l : Int} {L : List Rn} (a : Option Addr) (cp : Nat) (w : World) (hR : Rns w a L) (hO : ∀ r ∈ L, Rok r) (ht : t ≤ 9223372036854775807) : Calls Try.prog 8 #[trackV c t l (.slice a L.length cp)] w (Wrote w c t l L) := by
  unfold Wrote wS wE
  cases hk : keepB c t l L
  · exact write_no a cp w hR (fun r hr => (hO r hr).1) hk
  · exact write_ok a cp w hR (fun r hr => (hO r hr).1) (fun r hr => (hO r hr).2) hk ht
theorem rwrite_any {c t l : Int} {L : List Rn} (a : Option Addr) (cp : Nat) (w : World) (hR : Rns w a L) (hO : ∀ r ∈ L, Rok r) (ht : t ≤ 9223372036854775807) : Calls Try.prog 9 #[trackV c t l (.slice a L.length cp)] w (Wrote w c t l L) := by
  unfold Wrote wS wE
  cases hk : keepB c t l L
  · exact rwrite_no a cp w hR (fun r hr => (hO r hr).1) hk
  · exact rwrite_ok a cp w hR (fun r hr => (hO r hr).1) (fun r hr => (hO r hr).2) hk ht
theorem aw0 : wS 0 0 0 [] = ⟨#[0, 0, 0, 0]⟩ := by decide +kernel
theorem aw0e : wE 0 0 0 [] = 0 := by decide +kernel
def rA : Rn := ⟨2, 0, 0, 0, [2, 5]⟩
theorem aw1 : wS 9 0 0 [rA] = ⟨#[9, 0, 0, 1, 2, 0, 0, 0, 2, 2]⟩ := by decide +kernel
theorem aw1e : wE 9 0 0 [rA] = 0 := by decide +kernel
theorem rokA : ∀ r ∈ [rA], Rok r := by
  intro r hr
  simp only [List.mem_singleton] at hr
  subst hr
  unfold Rok rA
  simp
theorem rnsA {w : World} {g q : Nat} {c : Nat} (K : Blk w q 3 #[.int .i64 2, .int .i64 5]) (G : Blk w g 46 #[.int .i64 2, .int .i64 0, .int .i64 0, .int .u64 0, .slice (some ⟨q, 0, none⟩) 2 c]) (hc : 2 ≤ c) : Rns w (some ⟨g, 0, none⟩) [rA] := fun p hp => by
  obtain rfl : p = 0 := by simpa using hp
  refine ⟨g, 0, some ⟨q, 0, none⟩, c, rfl, G.lt, G.cell 0, G.cell 1, G.cell 2, G.cell 3, G.cell 4, ?_, hc⟩
  intro i hi
  have hi' : i < 2 := hi
  match i, hi' with
  | 0, _ => exact ⟨q, 0, rfl, K.lt, K.cell 0⟩
  | 1, _ => exact ⟨q, 0, rfl, K.lt, K.cell 1⟩
set_option maxHeartbeats 4000000 in
set_option maxRecDepth 100000 in
theorem awake_any (w : World) : Calls Try.prog 7 #[] w fun e w' => e = .returned (.bool true) ∧ Below w.heap.size w w' := by
  have C0 := Lib.hid (write_any (c := 0) (t := 0) (l := 0) (L := []) none 0 w (fun p hp => absurd hp (Nat.not_lt_zero p)) (fun r hr => by simp at hr) (by omega))
  have C1 := Lib.hid (fun (g cp : Nat) (W : World) (h : Rns W (some ⟨g, 0, none⟩) [rA]) => write_any (c := 9) (t := 0) (l := 0) (L := [rA]) (some ⟨g, 0, none⟩) cp W h rokA (by omega))
  unfold Wrote trackV at C0 C1
  rw [aw0, aw0e] at C0
  rw [aw1, aw1e] at C1
  go_enter Try.func7, Try.ntmps7
  go_wp2_with fail
  refine C0.out.mono ?_
  rintro e w1 ⟨rfl, b1⟩
  have B1 := Lib.hid b1
  clear b1
  go_wp2_with fail
  have K1 := Blk.new w1 3 #[.int .i64 2, .int .i64 5]
  have B2 := (B1.out.alloc B1.out.size (.cells #[.int .i64 2, .int .i64 5] 3))
  have hz : (w1.alloc (.cells #[.int .i64 2, .int .i64 5] 3)).heap.size = w1.heap.size + 1 := by simp
  have K2 := K1.al (.cells #[.int .i64 2, .int .i64 0, .int .i64 0, .int .u64 0, .slice (some ⟨w1.heap.size, 0, none⟩) 2 2] 46)
  have G2 := Blk.new (w1.alloc (.cells #[.int .i64 2, .int .i64 5] 3)) 46 #[.int .i64 2, .int .i64 0, .int .i64 0, .int .u64 0, .slice (some ⟨w1.heap.size, 0, none⟩) 2 2]
  have B3 := B2.alloc B2.size (.cells #[.int .i64 2, .int .i64 0, .int .i64 0, .int .u64 0, .slice (some ⟨w1.heap.size, 0, none⟩) 2 2] 46)
  rw [hz] at G2
  have R2 := Lib.hid (rnsA K2 G2 (Nat.le_refl 2))
  have B3h := Lib.hid B3
  clear K1 B2 hz K2 G2 B3
  refine (C1.out _ _ _ R2.out).mono ?_
  rintro e w2 ⟨rfl, b2⟩
  have B4 := Lib.hid (B3h.out.trans (b2.mono B3h.out.size))
  clear b2
  go_wp2_with fail
  go_ret
  exact ⟨ret_bool (by simp), B4.out⟩
set_option maxHeartbeats 4000000 in
set_option maxRecDepth 100000 in
theorem writes_law (c t l : Int) (L : List Rn) (a : Option Addr) (cp : Nat) (w : World) (hR : Rns w a L) (hO : ∀ r ∈ L, r.t ≤ 9223372036854775807 ∧ 0 ≤ r.n ∧ r.n < 18446744073709551616) (ht : t ≤ 9223372036854775807) :
    Calls Try.prog 3 #[trackV c t l (.slice a L.length cp)] w fun e w' => e = .returned (.bool true) ∧ Below w.heap.size w w' := by
  have bA := (Below.refl _ w).alloc (Nat.le_refl _) (.cells #[.int .i64 c, .int .i64 t, .int .i64 l, .slice a L.length cp] 24)
  have BA := Lib.hid bA
  have RA := Lib.hid (hR.below bA)
  have KA := Lib.hid (Blk.new w 24 #[.int .i64 c, .int .i64 t, .int .i64 l, .slice a L.length cp])
  have FW := Lib.hid (few_any c t l L a cp _ (hR.below bA))
  have hF : fewB L = true → (∀ r ∈ L, Rok r) ∧ L.length ≤ 1000 := fun h => by
    unfold fewB at h
    simp only [Bool.and_eq_true, decide_eq_true_eq, List.all_eq_true] at h
    exact ⟨fun r hr => ⟨by have := h.2 r hr; omega, hO r hr⟩, by omega⟩
  have HF := Lib.hid hF
  clear hR hO bA hF
  cases hf : fewB L
  · rw [hf] at FW
    unfold trackV at *
    have c0 := KA.out.cell 0
    have c1 := KA.out.cell 1
    have c2 := KA.out.cell 2
    have c3 := KA.out.cell 3
    simp only [List.getElem?_toArray, List.getElem?_cons_zero, List.getElem?_cons_succ] at c0 c1 c2 c3
    go_enter Try.func3, Try.ntmps3
    go_wp2_with fail
    refine FW.out.mono ?_
    rintro e w1 ⟨rfl, b1⟩
    have B1 := Lib.hid (BA.out.trans (b1.mono BA.out.size))
    clear b1
    go_wp2_with fail
    refine (awake_any _).mono ?_
    rintro e w2 ⟨rfl, b2⟩
    have B2 := Lib.hid (B1.out.trans (b2.mono B1.out.size))
    clear b2
    go_wp2_with fail
    go_ret
    exact ⟨rfl, B2.out⟩
  · rw [hf] at FW
    have hO := (HF.out hf).1
    have hl := (HF.out hf).2
    have C8 := Lib.hid (fun W (h : Rns W a L) => write_any (c := c) (t := t) (l := l) a cp W h hO ht)
    have C10 := Lib.hid (fun W (h : Rns W a L) => cnv_any c t l a cp L W hl h)
    have C9 := Lib.hid (fun a' cp' W (h : Rns W a' L) => rwrite_any (c := c) (t := t) (l := l) a' cp' W h hO ht)
    unfold Wrote Cnvd at *
    unfold trackV at *
    generalize wS c t l L = S at *
    generalize wE c t l L = E at *
    clear HF hf hO hl
    generalize hm : L.length = m at *
    have c0 := KA.out.cell 0
    have c1 := KA.out.cell 1
    have c2 := KA.out.cell 2
    have c3 := KA.out.cell 3
    simp only [List.getElem?_toArray, List.getElem?_cons_zero, List.getElem?_cons_succ] at c0 c1 c2 c3
    go_enter Try.func3, Try.ntmps3
    go_wp2_with fail
    refine FW.out.mono ?_
    rintro e w1 ⟨rfl, b1⟩
    have B1 := Lib.hid (BA.out.trans (b1.mono BA.out.size))
    have K1 := Lib.hid (KA.out.over b1)
    have R1 := Lib.hid (RA.out.below b1)
    clear b1 c0 c1 c2 c3
    have c0 := K1.out.cell 0
    have c1 := K1.out.cell 1
    have c2 := K1.out.cell 2
    have c3 := K1.out.cell 3
    simp only [List.getElem?_toArray, List.getElem?_cons_zero, List.getElem?_cons_succ] at c0 c1 c2 c3
    go_wp2_with fail
    refine (C8.out _ R1.out).mono ?_
    rintro e w2 ⟨rfl, b2⟩
    have B2 := Lib.hid (B1.out.trans (b2.mono B1.out.size))
    have K2 := Lib.hid (K1.out.over b2)
    have R2 := Lib.hid (R1.out.below b2)
    clear b2 c0 c1 c2 c3
    have c0 := K2.out.cell 0
    have c1 := K2.out.cell 1
    have c2 := K2.out.cell 2
    have c3 := K2.out.cell 3
    simp only [List.getElem?_toArray, List.getElem?_cons_zero, List.getElem?_cons_succ] at c0 c1 c2 c3
    go_wp2_with fail
    refine (C10.out _ R2.out).mono ?_
    rintro e w3 ⟨a3, cp3, rfl, r3, b3⟩
    have B3 := Lib.hid (B2.out.trans (b3.mono B2.out.size))
    have R3 := Lib.hid r3
    clear b3 r3 c0 c1 c2 c3
    go_wp2_with fail
    refine (C9.out _ _ _ R3.out).mono ?_
    rintro e w4 ⟨rfl, b4⟩
    have B4 := Lib.hid (B3.out.trans (b4.mono B3.out.size))
    clear b4
    go_wp2_with fail
    refine (awake_any _).mono ?_
    rintro e w5 ⟨rfl, b5⟩
    have B5 := Lib.hid (B4.out.trans (b5.mono B4.out.size))
    clear b5
    go_wp2_with fail
    go_ret
    exact ⟨ret_bool (by simp), B5.out⟩
end Go.Proofs.Ytifdljdnpdefgaa
