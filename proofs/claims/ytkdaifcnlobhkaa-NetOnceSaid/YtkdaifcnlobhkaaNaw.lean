/-
  net: the page's example.
-/
import Derived.Test.YtkdaifcnlobhkaaNdu
namespace Go.Proofs.Ytkdaifcnlobhkaa
open Go.RowKit
theorem own_form {w : World} {B size n : Nat} {e : TypeId} {v : Value} {xs : List Value} (h : w.ownsRow B e size v n xs) : ∃ a c, v = .slice a n c := by
  rcases h.2 with ⟨rfl, e⟩ | ⟨g, cap, cur, rfl, _⟩
  · exact ⟨none, 0, by rw [e]⟩
  · exact ⟨_, _, rfl⟩
def noC : Int → Int → Bool := fun _ _ => false
/-- Due, where what comes is known -/
def DueK (w0 w : World) (N : Nat) (Z : Int) (X R' : List Ag.It) (G : Int → Ask) (C : Int → Int → Bool) (e : Ending) (w' : World) : Prop :=
  ∃ a c, e = .returned (.slice a (selA C G X).length c) ∧ NetS w0 N Z R' G C w' ∧ w'.ownsRow w.heap.size 35 13 (.slice a (selA C G X).length c) (selA C G X).length (cellsM (selA C G X)) ∧ w.heap.size ≤ w'.heap.size
theorem net_dueK {w0 w : World} {N : Nat} {Z : Int} {R : List Ag.It} {G : Int → Ask} {C : Int → Int → Bool} (h : NetS w0 N Z R G C w) (now : Int) (hR : R.length ≤ 4096) (hZ : Z ≤ 1000000) :
    Calls Try.prog 14 #[.pointer (some ⟨N, 0, none⟩), .int .i64 now] w (DueK w0 w N Z (R.filter (fun x => decide (x.t ≤ now))) (R.filter (fun x => !decide (x.t ≤ now))) G C) :=
  (net_due h now hR hZ).mono fun e w' ⟨u, X, R', he, hX, h1, h2, hn, ho, _, hs⟩ => by
    obtain ⟨e1, e2⟩ := Ag.due_split hX h1 h2
    rw [← e1, ← e2]
    obtain ⟨a, c, rfl⟩ := own_form ho
    exact ⟨a, c, he, hn, ho, hs⟩
set_option maxHeartbeats 4000000 in
set_option maxRecDepth 100000 in
theorem awake_any (w : World) : Calls Try.prog 8 #[] w fun e w' => e = .returned (.bool true) ∧ Below w.heap.size w w' := by
  have NW := Lib.hid (net_new w w (fun _ => ⟨0, 1, 5⟩) (Below.refl _ _))
  go_enter Try.func8, Try.ntmps8
  go_wp2_with fail
  refine NW.out.mono ?_
  rintro e w1 ⟨N, rfl, h1⟩
  have H1 := Lib.hid h1
  clear h1 NW
  go_wp2_with fail
  refine (ask_fun 0 1 5 _).mono ?_
  rintro e w2 ⟨rfl, b2⟩
  have H2 := Lib.hid (H1.out.next b2)
  have SD := Lib.hid (send_any H2.out 0 2 ⟨0, 1, 5⟩ ⟨by decide, by decide, by decide, by decide⟩ (by decide) (by decide) rfl (by decide) (by decide))
  clear b2 H1
  unfold askA at SD
  unfold askA
  go_wp2_with fail
  refine SD.out.mono ?_
  rintro e w3 ⟨rfl, h3⟩
  have H3 : Hid (NetS w N 1 [⟨2, 1, 0⟩] (fun i => if i = 0 + 1 then ⟨0, 1, 5⟩ else ⟨0, 1, 5⟩) noC w3) := Lib.hid h3
  generalize (fun i : Int => if i = 0 + 1 then (⟨0, 1, 5⟩ : Ask) else ⟨0, 1, 5⟩) = G at *
  clear h3 SD H2
  have D1 := Lib.hid (net_dueK H3.out 1 (by decide) (by decide))
  go_wp2_with fail
  refine D1.out.mono ?_
  rintro e w4 ⟨a4, c4, rfl, h4, _, _⟩
  have H4 : Hid (NetS w N 1 [⟨2, 1, 0⟩] G noC w4) := Lib.hid h4
  have e4 : (selA noC G (([⟨2, 1, 0⟩] : List Ag.It).filter (fun x => decide (x.t ≤ 1)))).length = 0 := rfl
  rw [e4]
  have L4 := Lib.hid (net_len H4.out)
  have D2 := Lib.hid (net_dueK H4.out 2 (by decide) (by decide))
  clear h4 D1 H3
  go_wp2_with fail
  refine L4.out.mono ?_
  rintro e w5 ⟨rfl, rfl⟩
  go_wp2_with fail
  refine D2.out.mono ?_
  rintro e w6 ⟨a6, c6, rfl, h6, _, _⟩
  have H6 : Hid (NetS w N 1 [] G noC w6) := Lib.hid h6
  have e6 : (selA noC G (([⟨2, 1, 0⟩] : List Ag.It).filter (fun x => decide (x.t ≤ 2)))).length = 1 := rfl
  rw [e6]
  have L6 := Lib.hid (net_len H6.out)
  have B6 := Lib.hid H6.out.bel
  clear h6 D2 L4 H4 H6
  go_wp2_with fail
  refine L6.out.mono ?_
  rintro e w7 ⟨rfl, rfl⟩
  go_wp2_with fail
  go_ret
  exact ⟨rfl, B6.out⟩
end Go.Proofs.Ytkdaifcnlobhkaa
