/-
  THE LAW EventGets AS A WALK.
-/
import Derived.Test.YtjclcbgmpaaokabGet
import Derived.Test.YtjclcbgmpaaokabEvr
namespace Go.Proofs.Ytjclcbgmpaaokab
open Go.RowKit
set_option maxHeartbeats 2000000 in
set_option maxRecDepth 100000 in
theorem gets_law (a b c : Int) (k s : ByteArray) (p : Option Addr) (cp : Nat) (L : List Fld) (w : World) (hl : L.length ≤ 9223372036854775807) (hx : Flds w p L) (hS : ∀ x ∈ L, x.v.s.size ≤ 281474976710656) :
    Calls Try.prog 7 #[evV a b c k (.slice p L.length cp), .string s] w fun e w' => e = .returned (.bool true) ∧ Below w.heap.size w w' := by
  obtain ⟨w1, hw1, K1, B1, hs1⟩ : ∃ w1, w1 = w.alloc (.cells #[.int .i64 a, .int .i64 b, .int .i64 c, .string k, .slice p L.length cp] 24) ∧ Blk w1 w.heap.size 24 #[.int .i64 a, .int .i64 b, .int .i64 c, .string k, .slice p L.length cp] ∧ Below w.heap.size w w1 ∧ w1.heap.size = w.heap.size + 1 :=
    ⟨_, rfl, heap_alloc_new w _, (Below.refl _ w).alloc (Nat.le_refl _) _, by simp⟩
  have W1 := Lib.hid hw1
  have B1h := Lib.hid B1
  have K1h := Lib.hid K1
  have HX := Lib.hid hx
  have HS := Lib.hid hS
  have e0 : w1.cell? ⟨w.heap.size, 0, none⟩ = some (.int .i64 a) := K1.cell 0
  have e1 : w1.cell? ⟨w.heap.size, 1, none⟩ = some (.int .i64 b) := K1.cell 1
  have e2 : w1.cell? ⟨w.heap.size, 2, none⟩ = some (.int .i64 c) := K1.cell 2
  have e3 : w1.cell? ⟨w.heap.size, 3, none⟩ = some (.string k) := K1.cell 3
  have e4 : w1.cell? ⟨w.heap.size, 4, none⟩ = some (.slice p L.length cp) := K1.cell 4
  clear hw1 B1 K1 hx hS
  have XX := Lib.hid (HX.out.below B1h.out)
  by_cases h100 : L.length ≤ 100
  · have G1 := Lib.hid (get_any a b c k s p cp L w1 h100 XX.out HS.out)
    have RF := Lib.hid (fun W (hb : Below w.heap.size w W) => ref_any a b c k p cp L W h100 (HX.out.below hb))
    have RG := Lib.hid (fun p' cp' W (hx : Flds W p' L) => rget_any a b c k s p' cp' L W h100 hx)
    generalize (findF L s).isSome = is at *
    generalize optV (findF L s) = v at *
    have SR := Lib.hid (same_refl v)
    obtain ⟨vk, vn, vf, vs⟩ := v
    unfold evV Val.val at G1 RG
    unfold evV at RF ⊢
    unfold Val.val at SR
    simp only at G1 RG SR
    generalize hn : L.length = n at *
    have HN := Lib.hid hn
    clear hn
    generalize hy : w.heap.size = Y at *
    go_enter Try.func7, Try.ntmps7
    go_wp2_with fail
    rw [← W1.out]
    go_wp2_with fail
    refine G1.out.mono ?_
    rintro e w2 ⟨rfl, b2⟩
    obtain ⟨w3, hw3, V3, b3⟩ : ∃ w3, w3 = w2.alloc (.cells #[.int .i64 vk, .int .i64 vn, .float .f64 vf, .string vs] 47) ∧ VAt w3 w2.heap.size ⟨vk, vn, vf, vs⟩ ∧ Below w2.heap.size w2 w3 :=
      ⟨_, rfl, VAt.new w2 ⟨vk, vn, vf, vs⟩ 47, (Below.refl _ w2).alloc (Nat.le_refl _) _⟩
    have b13 : Below w1.heap.size w1 w3 := b2.trans (b3.mono b2.size)
    have K3 := K1h.out.below b13
    have B3h : Hid (Below Y w w3) := Lib.hid (B1h.out.trans (b13.mono (by omega)))
    have W3 := Lib.hid hw3
    have V3h := Lib.hid V3
    have K2 := K1h.out.below b2
    have g0 : w2.cell? ⟨Y, 0, none⟩ = some (.int .i64 a) := K2.cell 0
    have g1 : w2.cell? ⟨Y, 1, none⟩ = some (.int .i64 b) := K2.cell 1
    have g2 : w2.cell? ⟨Y, 2, none⟩ = some (.int .i64 c) := K2.cell 2
    have g3 : w2.cell? ⟨Y, 3, none⟩ = some (.string k) := K2.cell 3
    have g4 : w2.cell? ⟨Y, 4, none⟩ = some (.slice p n cp) := K2.cell 4
    have lY2 := K2.lt
    have RF3 := Lib.hid (RF.out w3 B3h.out)
    clear hw3 V3 b13 K3 K2 b2 b3 e0 e1 e2 e3 e4 G1 RF
    go_wp2_with fail
    rw [← W3.out]
    generalize hq : w2.heap.size = Q at *
    refine RF3.out.mono ?_
    rintro e w4 ⟨p', cp', rfl, x4, b4⟩
    rw [HN.out]
    have RG4 := Lib.hid (RG.out p' cp' w4 x4)
    have V4h := Lib.hid (V3h.out.below b4)
    have B4h : Hid (Below Y w w4) := Lib.hid (B3h.out.trans (b4.mono (by have := B3h.out.size; omega)))
    clear x4 b4 V3h B3h RF3 RG g0 g1 g2 g3 g4 lY2
    unfold evV
    go_wp2_with fail
    refine RG4.out.mono ?_
    rintro e w5 ⟨rfl, b5⟩
    have V5 := V4h.out.below b5
    obtain ⟨w6, hw6, U6, b6⟩ : ∃ w6, w6 = w5.alloc (.cells #[.int .i64 vk, .int .i64 vn, .float .f64 vf, .string vs] 50) ∧ VAt w6 w5.heap.size ⟨vk, vn, vf, vs⟩ ∧ Below w5.heap.size w5 w6 :=
      ⟨_, rfl, VAt.new w5 ⟨vk, vn, vf, vs⟩ 50, (Below.refl _ w5).alloc (Nat.le_refl _) _⟩
    have V6h := Lib.hid (V5.below b6)
    have U6h := Lib.hid U6
    have W6 := Lib.hid hw6
    have B6h : Hid (Below Y w w6) := Lib.hid (B4h.out.trans ((b5.trans (b6.mono b5.size)).mono (by have := B4h.out.size; omega)))
    clear hw6 U6 b6 b5 V5 V4h B4h RG4
    generalize hr : w5.heap.size = R at *
    go_wp2_with fail
    rw [← W6.out]
    refine (awake_any _).mono ?_
    rintro e w7 ⟨rfl, b7⟩
    obtain ⟨v0, v1, v2, v3, lv⟩ := V6h.out.below b7
    obtain ⟨u0, u1, u2, u3, lu⟩ := U6h.out.below b7
    simp only at v0 v1 v2 v3 u0 u1 u2 u3
    have B7h : Hid (Below Y w w7) := Lib.hid (B6h.out.trans (b7.mono (by have := B6h.out.size; omega)))
    clear b7 V6h U6h B6h
    go_wp2_with fail
    refine (SR.out _).mono ?_
    rintro e w8 ⟨rfl, b8⟩
    have B8h : Hid (Below Y w w8) := Lib.hid (B7h.out.trans (b8.mono (by have := B7h.out.size; omega)))
    clear b8 B7h
    go_wp2_with fail
    go_ret
    exact ⟨ret_bool (by simp), B8h.out⟩
  · have h100' : ¬ (L.length : Int) ≤ 100 := by omega
    generalize L.length = n at *
    generalize hy : w.heap.size = Y at *
    unfold evV
    go_enter Try.func7, Try.ntmps7
    go_wp2_with fail
    rw [← W1.out]
    go_wp2_with fail
    refine (awake_any _).mono ?_
    rintro e w2 ⟨rfl, b2⟩
    have B2h : Hid (Below Y w w2) := Lib.hid (B1h.out.trans (b2.mono (by omega)))
    clear b2
    go_wp2_with fail
    go_ret
    exact ⟨rfl, B2h.out⟩
end Go.Proofs.Ytjclcbgmpaaokab
