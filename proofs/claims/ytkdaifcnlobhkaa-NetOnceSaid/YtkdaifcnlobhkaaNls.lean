/-
  net: Lose, and Twice where the net is full.
-/
import Derived.Test.YtkdaifcnlobhkaaNaw
namespace Go.Proofs.Ytkdaifcnlobhkaa
open Go.RowKit
def LostN (w0 : World) (N : Nat) (Z : Int) (R : List Ag.It) (G : Int → Ask) (C : Int → Int → Bool) (id : Int) (e : Ending) (w' : World) : Prop :=
  e = .returned (.bool (decide (∃ x ∈ R, x.i = id))) ∧ NetS w0 N Z (R.filter (fun x => x.i != id)) G C w'
theorem let_lose {R : List Ag.It} {G : Int → Ask} {F : Lf} (h : LetG R G F) (id : Int) : LetG (R.filter (fun x => x.i != id)) G (upd F id none) := by
  intro x hx
  obtain ⟨h1, h2⟩ := List.mem_filter.1 hx
  have hne : x.i ≠ id := by simpa using h2
  rw [upd_other _ _ hne]
  exact h x h1
theorem net_lose {w0 w : World} {N : Nat} {Z : Int} {R : List Ag.It} {G : Int → Ask} {C : Int → Int → Bool} (h : NetS w0 N Z R G C w) (id : Int) (hid : I64 id) :
    Calls Try.prog 17 #[.pointer (some ⟨N, 0, none⟩), .int .i64 id] w (LostN w0 N Z R G C id) := by
  obtain ⟨A, r, M, F, cs, h, hG⟩ := h.outS
  have c1 := h.c1
  obtain ⟨w2, hrun, l2, f2, _⟩ := h.l.strike hid 0
  have P2 := Lib.hid (h.lts f2 l2 (Nat.le_refl _))
  have LG := Lib.hid (let_lose hG id)
  have d0 : w2.cell? ⟨N, 0, none⟩ = some (.pointer (some ⟨A, 0, none⟩)) := P2.out.c0
  have DR := Lib.hid (Ag.drop_any w2 w0.heap.size A Z r R id P2.out.a)
  clear h hG l2 f2 hid
  go_enter Try.func17, Try.ntmps17
  go_wp2_with fail
  refine DR.out.mono ?_
  rintro e w3 ⟨r', rfl, a3, t3⟩
  have P3 := Lib.hid (P2.out.tch t3 a3 (Int.le_refl _))
  clear a3 t3 hrun DR d0 c1 P2
  generalize hbb : decide (∃ x ∈ R, x.i = id) = bb at *
  have BB := Lib.hid hbb
  clear hbb
  go_wp2_with fail
  go_ret
  exact ⟨by rw [BB.out]; rfl, P3.out.mkS LG.out⟩
set_option maxHeartbeats 4000000 in
set_option maxRecDepth 100000 in
theorem twice_full {w0 w : World} {N : Nat} {Z : Int} {R : List Ag.It} {G : Int → Ask} {C : Int → Int → Bool} (h : NetS w0 N Z R G C w) (x : Ag.It) (hx : x ∈ R) (hxi : I64 x.i) (now d : Int) (hn : 0 ≤ now ∧ now ≤ 549755813888) (hd : 0 ≤ d ∧ d ≤ 549755813888) (hC : C (G x.i).f (G x.i).t = false) (hR : R.length = 4096) :
    Calls Try.prog 16 #[.pointer (some ⟨N, 0, none⟩), .int .i64 x.i, .int .i64 now, .int .i64 d] w fun e w' => e = .returned (.tuple #[.int .i64 0, .int .i64 7]) ∧ NetS w0 N Z R G C w' := by
  obtain ⟨A, r, M, F, cs, hP, hG⟩ := h.outS
  have c1 := hP.c1
  obtain ⟨hF, hOK⟩ := hG x hx
  have LK := hP.l.look_ok hxi
  rw [hF] at LK
  have LT := Lib.hid (fun V => letter_ask (G x.i).f (G x.i).t (G x.i).m hOK.f hOK.t hOK.m hOK.ne V)
  have SF := Lib.hid (fun V (hV : NetS w0 N Z R G C V) => send_full hV now d (G x.i) hOK hn hd hC hR)
  have HS : Hid (NetS w0 N Z R G C w) := Lib.hid (hP.mkS hG)
  unfold valO letV at LK
  simp only [Option.getD_some, Option.isSome_some] at LK
  generalize askS (G x.i).f (G x.i).t (G x.i).m = S at *
  generalize G x.i = a at *
  generalize x.i = id at *
  unfold askA at LT SF
  clear hP hG hF hOK hn hd hC hR hx hxi
  go_enter Try.func16, Try.ntmps16
  go_wp2_with fail
  have H1 := Lib.hid (HS.out.next (BN1 w (.cells #[.string S] 83)))
  clear LK HS
  refine (LT.out _).mono ?_
  rintro e w2 ⟨rfl, b2⟩
  have H2 := Lib.hid (H1.out.next b2)
  clear b2 H1 c1
  go_wp2_with fail
  refine (SF.out _ H2.out).mono ?_
  rintro e w3 ⟨rfl, h3⟩
  have H3 := Lib.hid h3
  clear h3 H2 SF LT
  go_wp2_with fail
  go_ret2
  exact ⟨rfl, H3.out⟩
end Go.Proofs.Ytkdaifcnlobhkaa
