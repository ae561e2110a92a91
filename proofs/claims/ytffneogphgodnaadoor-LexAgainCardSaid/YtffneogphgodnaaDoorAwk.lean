/-
  THE PAGE's EXAMPLES: awake.
-/
import Derived.Test.YtffneogphgodnaaDoorSca
namespace Go.Proofs.YtffneogphgodnaaDoor
open Go.RowKit
def exA : ByteArray := ⟨#[97, 91, 120, 62, 61, 45, 49, 93]⟩
def exB : ByteArray := ⟨#[32, 48, 49]⟩
theorem exA_len : (scanO exA).T.length = 7 := by decide +kernel
theorem exA_e : (scanO exA).e = 0 := by decide +kernel
theorem exA_3 : ((scanO exA).T[3]?).map (fun x => x.t.data.toList) = some [62, 61] := by decide +kernel
theorem exA_4 : ((scanO exA).T[4]?).map (·.n) = some (-1) := by decide +kernel
theorem exB_at : (scanO exB).at_ = 1 := by decide +kernel
theorem exB_e : (scanO exB).e = 90 := by decide +kernel
theorem scan_met (s : ByteArray) (hs : s.size ≤ 9223372036854775807) {L : List Tok} {a e : Int} (h1 : (scanO s).T = L) (h2 : ((scanO s).at_ : Int) = a) (h3 : (scanO s).e = e) (W : World) :
    Calls Tryd.prog 7 #[.string s] W (fun er w' => ∃ p cp, er = .returned (.tuple #[.slice p L.length cp, .int .i64 a, .int .i64 e]) ∧ Toks w' p L ∧ Below W.heap.size W w') := by
  have := scan_any s hs W
  unfold Scand at this
  rw [h1, h2, h3] at this
  exact this
set_option maxHeartbeats 1000000 in
theorem awake_any (w : World) : Calls Tryd.prog 9 #[] w fun e w' => e = .returned (.bool true) ∧ Below w.heap.size w w' := by
  obtain ⟨LA, hLA⟩ : ∃ L, (scanO exA).T = L := ⟨_, rfl⟩
  obtain ⟨LB, hLB⟩ : ∃ L, (scanO exB).T = L := ⟨_, rfl⟩
  obtain ⟨aA, haA⟩ : ∃ a, ((scanO exA).at_ : Int) = a := ⟨_, rfl⟩
  have DA := Lib.hid (fun W => scan_met exA (by decide) hLA haA exA_e W)
  have DB := Lib.hid (fun W => scan_met exB (by decide) hLB (show ((scanO exB).at_ : Int) = 1 by rw [exB_at]; rfl) exB_e W)
  have n7 := exA_len
  have t3 := exA_3
  have t4 := exA_4
  rw [hLA] at n7 t3 t4
  rw [n7] at DA
  clear hLA hLB haA
  unfold exA at DA
  unfold exB at DB
  go_enter Tryd.func9, Tryd.ntmps9
  go_wp2_with fail
  refine (DA.out _).mono ?_
  rintro e w1 ⟨p1, cp1, rfl, T1, b1⟩
  have T1h := Lib.hid T1
  have B1h := Lib.hid b1
  clear T1 b1
  go_wp2_with fail
  refine (DB.out _).mono ?_
  rintro e w2 ⟨p2, cp2, rfl, _, b2⟩
  have T2h := Lib.hid (T1h.out.below b2)
  have B2h := Lib.hid (B1h.out.trans (b2.mono B1h.out.size))
  clear b2
  obtain ⟨g, o, rfl, hg, _, _, c2, _, _⟩ := T2h.out 3 (by omega)
  obtain ⟨g', o', hgo, _, _, _, _, d3, _⟩ := T2h.out 4 (by omega)
  obtain ⟨rfl, rfl⟩ : g = g' ∧ o = o' := by simp only [Option.some.injEq, Addr.mk.injEq, and_true] at hgo; exact hgo
  rw [List.getElem?_eq_getElem (by omega)] at t3 t4
  simp only [Option.map_some, Option.some.injEq] at t3 t4
  have e3 : LA[3].t = ⟨#[62, 61]⟩ := ba_ext t3
  rw [e3] at c2
  rw [t4] at d3
  clear t3 t4 e3 hgo T1h B1h
  generalize LB.length = n2 at *
  go_wp2_with fail
  go_ret
  exact ⟨rfl, B2h.out⟩
end Go.Proofs.YtffneogphgodnaaDoor
