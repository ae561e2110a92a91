/-
  WHAT THE ROWS REST ON, part 6: Gen1 Gen2 Gen3 Gen4 Gen5 Open2 Gen6 Fulw.
-/
import Derived.ChangeSlices
import Derived.Test.YthdkflmkcoabaaaPart5
/-
  SAVING ON ANY DISK: a row of changes under way, of which none is sure; the power that fails at one of them; plain, and the disk's calls.
-/
namespace Go.Proofs.Ythdkflmkcoabaaa
open Go.RowKit
/-! ### plain: what is kept of a saving -/
/-- other files stay, the file is as it was, or the new one -/
def Kept (fs G : Fm) (b f : Nm) (p : List UInt8) : Prop := (∀ s, s ≠ b → s ≠ f → get G s = get fs s) ∧ (get G f = get fs f ∨ get G f = some p)
theorem Kept.refl (fs : Fm) (b f : Nm) (p : List UInt8) : Kept fs fs b f p := ⟨fun _ _ _ => rfl, .inl rfl⟩
theorem Kept.put {fs : Fm} {b f : Nm} (hb : f ≠ b) (l p : List UInt8) : Kept fs (put fs b l) b f p :=
  ⟨fun s h _ => by rw [get_put, if_neg h], .inl (by rw [get_put, if_neg hb])⟩
theorem Kept.del {fs G : Fm} {b f : Nm} {p : List UInt8} (hb : f ≠ b) (h : Kept (del fs b) G b f p) : Kept fs G b f p := by
  obtain ⟨h1, h2⟩ := h
  refine ⟨fun s hs hf => by rw [h1 s hs hf, get_del, if_neg hs], ?_⟩
  rcases h2 with h2 | h2
  · exact .inl (by rw [h2, get_del, if_neg hb])
  · exact .inr h2
theorem doF_put (fs : Fm) (b : Nm) (s : ByteArray) : (Chg.put b 0 s).doF fs = put fs b (splice (gl fs b) 0 (bl s)) := rfl
theorem torn_put (fs : Fm) (b : Nm) (s : ByteArray) (k : Int) : ∃ l, tornF fs (.put b 0 s) k = fs ∨ tornF fs (.put b 0 s) k = put fs b l := by
  unfold tornF
  simp only
  split
  · exact ⟨_, .inr (doF_put _ _ _)⟩
  · exact ⟨[], .inl rfl⟩
theorem splice_nil (l : List UInt8) : splice [] 0 l = l := by unfold splice; simp
theorem gl_none {fs : Fm} {b : Nm} (h : get fs b = none) : gl fs b = [] := by unfold gl; rw [h]; rfl
/-- behind all of it -/
theorem all_get {fs : Fm} {b f : Nm} (hb : f ≠ b) (hg : get fs b = none) (P : ByteArray) :
    get (doAll fs [.put b 0 P, .move b f]) f = some (bl P) ∧ get (doAll fs [.put b 0 P, .move b f]) b = none ∧ ∀ s, s ≠ b → s ≠ f → get (doAll fs [.put b 0 P, .move b f]) s = get fs s := by
  have e : doAll fs [.put b 0 P, .move b f] = put (del (put fs b (bl P)) b) f (bl P) := by
    show Ythdkflmkcoabaaa.put (del ((Chg.put b 0 P).doF fs) b) f (gl ((Chg.put b 0 P).doF fs) b) = _
    rw [doF_put, gl_none hg, splice_nil]
    have : gl (put fs b (bl P)) b = bl P := by unfold gl; rw [get_put, if_pos rfl]; rfl
    rw [this]
  rw [e]
  refine ⟨by rw [get_put, if_pos rfl], by rw [get_put, if_neg (fun h => hb h.symm), get_del, if_pos rfl], fun s hs hf => by rw [get_put, if_neg hf, get_del, if_neg hs, get_put, if_neg hs]⟩
theorem keep_put {fs : Fm} {b f : Nm} (hb : f ≠ b) (P : ByteArray) (p : List UInt8) (k : Int) : Kept fs (keepF fs [.put b 0 P] k) b f p := by
  unfold keepF
  split
  · obtain ⟨l, h | h⟩ := torn_put fs b P k
    · rw [h]; exact Kept.refl _ _ _ _
    · rw [h]; exact Kept.put hb _ _
  · unfold keepF
    rw [doF_put]; exact Kept.put hb _ _
theorem keep_move {fs : Fm} {b f : Nm} (hb : f ≠ b) (hg : get fs b = none) (P : ByteArray) (k : Int) : Kept fs (keepF fs [.put b 0 P, .move b f] k) b f (bl P) := by
  unfold keepF
  split
  · obtain ⟨l, h | h⟩ := torn_put fs b P k
    · rw [h]; exact Kept.refl _ _ _ _
    · rw [h]; exact Kept.put hb _ _
  · unfold keepF
    split
    · show Kept fs ((Chg.put b 0 P).doF fs) b f (bl P)
      rw [doF_put]; exact Kept.put hb _ _
    · unfold keepF
      obtain ⟨h1, h2, h3⟩ := all_get hb hg P
      exact ⟨h3, .inr h1⟩
theorem keep_drop {fs : Fm} {b f : Nm} (hb : f ≠ b) {r : List Chg} {p : List UInt8} (h : ∀ k, Kept (del fs b) (keepF (del fs b) r k) b f p) (k : Int) : Kept fs (keepF fs (.drop b :: r) k) b f p := by
  unfold keepF
  split
  · exact Kept.refl _ _ _ _
  · exact Kept.del hb (h _)
theorem keep_nil (fs : Fm) (b f : Nm) (p : List UInt8) (k : Int) : Kept fs (keepF fs [] k) b f p := by unfold keepF; exact Kept.refl _ _ _ _
/-! ### a row under way -/
structure Up (S0 : St) (r : List Chg) (S : St) : Prop where
  down : S.down = false
  sure : S.sure = S0.sure
  row : S.row = r
  room : S.room = S0.room
  ok : Ok S
  trip : S0.trip = 0 → S.trip = 0
/-- the power failed -/
structure Dn (S0 : St) (r : List Chg) (S : St) : Prop where
  down : S.down = true
  row : S.row = []
  room : S.room = S0.room
  ok : Ok S
  sure : ∃ k, S.sure = keepF S0.sure r k
  trip : S0.trip ≠ 0
  zero : S.trip = 0
/-- all is sure -/
structure Dne (S0 : St) (r : List Chg) (S : St) : Prop where
  down : S.down = false
  row : S.row = []
  room : S.room = S0.room
  ok : Ok S
  sure : S.sure = doAll S0.sure r
  trip : S0.trip = 0 → S.trip = 0
theorem Up.now {S0 S : St} {r : List Chg} (u : Up S0 r S) : Alike S.now (doAll S0.sure r) := by
  have := u.ok.now
  rw [u.sure, u.row] at this
  exact this
theorem Up.count {S0 S S' : St} {r : List Chg} {x : Int} {c : Chg} (u : Up S0 r S) (hc : c.may S.now) (h : Counted { S with row := S.row ++ [c], now := c.doF S.now } S' x) : (x = 0 ∧ Up S0 (r ++ [c]) S') ∨ (x = 8 ∧ Dn S0 (r ++ [c]) S') := by
  have k := Counted.ok (S := { S with row := S.row ++ [c], now := c.doF S.now }) (mayAll_append u.ok.may (u.ok.now.may hc)) (by simp only [doAll_append]; exact u.ok.now.doF _) u.ok.trip u.ok.keep u.down h
  rcases h with ⟨_, rfl, e⟩ | ⟨h1, rfl, N, e, hN⟩
  · refine .inl ⟨rfl, ?_⟩
    subst e
    exact ⟨u.down, u.sure, by simp only; rw [u.row], u.room, k.1, fun h => by simp only; rw [u.trip h]; rfl⟩
  · refine .inr ⟨rfl, ?_⟩
    subst e
    refine ⟨rfl, rfl, u.room, k.1, ⟨atLeast S.keep 0, ?_⟩, fun h => ?_, rfl⟩
    · show keepF S.sure (S.row ++ [c]) _ = _
      rw [u.sure, u.row]
    · have := u.trip h
      simp only at h1
      omega
theorem Up.sync {S0 S S1 S' : St} {r : List Chg} {x : Int} (u : Up S0 r S) (h : Counted S S1 x) (hS : S' = if x = 0 then { S1 with sure := doAll S.sure S.row, row := [] } else S1) : (x = 0 ∧ Dne S0 r S') ∨ (x = 8 ∧ Dn S0 r S') := by
  have k := Counted.ok u.ok.may u.ok.now u.ok.trip u.ok.keep u.down h
  rcases h with ⟨_, rfl, e⟩ | ⟨h1, rfl, N, e, hN⟩
  · refine .inl ⟨rfl, ?_⟩
    rw [if_pos rfl] at hS
    subst e
    subst hS
    refine ⟨u.down, rfl, u.room, ⟨trivial, ?_, k.1.trip, k.1.keep, fun _ => rfl⟩, by simp only; rw [u.sure, u.row], fun h => by simp only; rw [u.trip h]; rfl⟩
    show Alike S.now (doAll (doAll S.sure S.row) [])
    exact u.ok.now
  · refine .inr ⟨rfl, ?_⟩
    rw [if_neg (by decide)] at hS
    subst hS
    subst e
    refine ⟨rfl, rfl, u.room, k.1, ⟨atLeast S.keep 0, ?_⟩, fun h => ?_, rfl⟩
    · show keepF S.sure S.row _ = _
      rw [u.sure, u.row]
    · have := u.trip h
      omega
/-! ### the calls -/
section
variable {w : World} {B D m : Nat} {S S0 : St} {r : List Chg} {Q : Nat → Prop}
/-- what a call that notes a change leaves -/
def StepQ (w : World) (B D m : Nat) (S0 : St) (r : List Chg) (Q : Nat → Prop) (e : Ending) (w' : World) : Prop :=
  ∃ S' x, e = .returned (.int .i64 x) ∧ DskQ w' B D m S' Q ∧ ((x = 0 ∧ Up S0 r S') ∨ (x = 8 ∧ Dn S0 r S')) ∧ Below B w w' ∧ Stay w w' Q
theorem StepQ.of {L : Lie} {c : Chg} {e : Ending} {w' : World} (h : DkL w B D m S L) (o : Off w D L Q) (u : Up S0 r S) (hc : c.may S.now) (n : NoteW w B D m S L c e w') : StepQ w B D (m + r.length + 5) S0 (r ++ [c]) Q e w' := by
  obtain ⟨S', L', x, rfl, d, hcnt, F, hN⟩ := n
  rw [u.row] at d
  exact ⟨S', x, rfl, ⟨L', d, (o.step F hN).1⟩, u.count hc hcnt, Fr.foot h F, (o.step F hN).2⟩
theorem dropg (f : Nm) (h : DskQ w B D m S Q) (u : Up S0 r S) (hm : m + r.length < 99990) (hE : findE S f = 0) :
    Calls Try.prog 78 #[.pointer (some ⟨D, 0, none⟩), .string f] w (StepQ w B D (m + r.length + 5) S0 (r ++ [.drop f]) Q) := by
  obtain ⟨L, h, o⟩ := h
  have h64 := (nameB_size (findE_zero hE).2.1).2
  have hc : (Chg.drop f).may S.now := h64
  exact (drop_yes f h (by omega) hE u.down (mayAll_append u.ok.may (u.ok.now.may hc)) hc (by rw [u.row]; exact hm) u.ok.trip u.ok.keep).mono fun e w' n => StepQ.of h o u hc n
theorem putg (f s : Nm) (h : DskQ w B D m S Q) (u : Up S0 r S) (hm : m + r.length < 99990) (hn : nameB f = true) (h4 : s.size ≤ 4194304) (hfl : ¬ putFull S f s 0) :
    Calls Try.prog 79 #[.pointer (some ⟨D, 0, none⟩), .string f, .int .i64 0, .string s] w (StepQ w B D (m + r.length + 5) S0 (r ++ [.put f 0 s]) Q) := by
  obtain ⟨L, h, o⟩ := h
  have h64 := (nameB_size hn).2
  have hc : (Chg.put f 0 s).may S.now := ⟨h64, Nat.zero_le _, by omega⟩
  refine (put_yes f s 0 h u.down (by omega) (fun hb => ?_) hfl (mayAll_append u.ok.may (u.ok.now.may hc)) hc (by rw [u.row]; exact hm) u.ok.trip u.ok.keep).mono fun e w' n => StepQ.of h o u hc n
  rcases hb with hb | hb | hb | hb
  · rw [hn] at hb; cases hb
  · omega
  · omega
  · omega
theorem putg_full (f s : Nm) (h : DskQ w B D m S Q) (u : Up S0 r S) (hn : nameB f = true) (h4 : s.size ≤ 4194304) (hfl : putFull S f s 0) :
    Calls Try.prog 79 #[.pointer (some ⟨D, 0, none⟩), .string f, .int .i64 0, .string s] w fun e w' => e = .returned (.int .i64 7) ∧ Below w.heap.size w w' := by
  obtain ⟨L, h, o⟩ := h
  have h64 := (nameB_size hn).2
  refine put_full f s 0 h u.down (by omega) (fun hb => ?_) hfl
  rcases hb with hb | hb | hb | hb
  · rw [hn] at hb; cases hb
  · omega
  · omega
  · omega
theorem moveg (f t : Nm) (h : DskQ w B D m S Q) (u : Up S0 r S) (hm : m + r.length < 99990) (hn : nameB f = true) (hn2 : nameB t = true) (hE : moveE S f t = 0) :
    Calls Try.prog 82 #[.pointer (some ⟨D, 0, none⟩), .string f, .string t] w (StepQ w B D (m + r.length + 5) S0 (r ++ [.move f t]) Q) := by
  obtain ⟨L, h, o⟩ := h
  have h64 := (nameB_size hn).2
  have h65 := (nameB_size hn2).2
  have hc : (Chg.move f t).may S.now := ⟨h64, h65⟩
  exact (move_yes f t h (by omega) (by omega) hE u.down (mayAll_append u.ok.may (u.ok.now.may hc)) hc (by rw [u.row]; exact hm) u.ok.trip u.ok.keep).mono fun e w' n => StepQ.of h o u hc n
/-- what Sync leaves -/
def SyncQ (w : World) (B D m : Nat) (S0 : St) (r : List Chg) (Q : Nat → Prop) (e : Ending) (w' : World) : Prop :=
  ∃ S' x, e = .returned (.int .i64 x) ∧ DskQ w' B D m S' Q ∧ ((x = 0 ∧ Dne S0 r S') ∨ (x = 8 ∧ Dn S0 r S')) ∧ Below B w w' ∧ Stay w w' Q
theorem syncg (h : DskQ w B D m S Q) (u : Up S0 r S) (hm : m + 2 * r.length < 99990) : Calls Try.prog 81 #[.pointer (some ⟨D, 0, none⟩)] w (SyncQ w B D (m + 2 * r.length + 2) S0 r Q) := by
  obtain ⟨L, h, o⟩ := h
  refine (sync_any h u.down u.ok.may (by rw [u.row]; exact hm) u.ok.trip u.ok.keep).mono fun e w' hh => ?_
  obtain ⟨S1, S', L', x, rfl, d, hcnt, hS', F, hN⟩ := hh
  rw [u.row] at d
  exact ⟨S', x, rfl, ⟨L', d, (o.step F hN).1⟩, u.sync hcnt hS', Fr.foot h F, (o.step F hN).2⟩
end
end Go.Proofs.Ythdkflmkcoabaaa
/-
  SAVING ON ANY DISK: save, whatever comes of it.
-/
namespace Go.Proofs.Ythdkflmkcoabaaa
open Go.RowKit
set_option maxHeartbeats 1000000 in
theorem or_zero {w : World} {g : Nat} {y : Int} (c0 : w.cell? ⟨g, 0, none⟩ = some (.int .i64 0)) (c1 : w.cell? ⟨g, 1, none⟩ = some (.int .i64 y)) (hy : y ≠ 0) : Calls Try.prog 80 #[.slice (some ⟨g, 0, none⟩) 2 2] w fun e w' => e = .returned (.int .i64 y) ∧ w = w' := by
  have hyb : (y != 0) = true := by simpa using hy
  go_enter Try.func80, Try.ntmps80
  go_wp2_with fail
  go_rounds 3
  go_ret
  exact ⟨rfl, rfl⟩
set_option maxHeartbeats 1000000 in
theorem or_some {w : World} {g : Nat} {x y : Int} (c0 : w.cell? ⟨g, 0, none⟩ = some (.int .i64 x)) (_c1 : w.cell? ⟨g, 1, none⟩ = some (.int .i64 y)) (hx : x ≠ 0) : Calls Try.prog 80 #[.slice (some ⟨g, 0, none⟩) 2 2] w fun e w' => e = .returned (.int .i64 x) ∧ w = w' := by
  have hxb : (x != 0) = true := by simpa using hx
  go_enter Try.func80, Try.ntmps80
  go_wp2_with fail
  go_rounds 3
  go_ret
  exact ⟨rfl, rfl⟩
/-- what a saving makes of a disk -/
structure SaveR (S : St) (b f : Nm) (p : List UInt8) (x : Int) (S' : St) : Prop where
  row : S'.row = []
  room : S'.room = S.room
  ok : Ok S'
  all : (x = 0 ∧ S'.down = false ∧ get S'.sure f = some p ∧ get S'.sure b = none ∧ (∀ s, s ≠ b → s ≠ f → get S'.sure s = get S.sure s) ∧ (S.trip = 0 → S'.trip = 0)) ∨
    (x = 7 ∧ S'.down = false ∧ 0 ≤ S.room ∧ get S'.sure b = none ∧ (∀ s, s ≠ b → get S'.sure s = get S.sure s) ∧ (S.trip = 0 → S'.trip = 0)) ∨
    (x = 8 ∧ S'.down = true ∧ S.trip ≠ 0 ∧ S'.trip = 0 ∧ Kept S.sure S'.sure b f p)
theorem fin_dn {S S' : St} {r : List Chg} {b f : Nm} {p : List UInt8} (n : Dn S r S') (hk : ∀ k, Kept S.sure (keepF S.sure r k) b f p) : SaveR S b f p 8 S' := by
  obtain ⟨k, hs⟩ := n.sure
  exact ⟨n.row, n.room, n.ok, .inr (.inr ⟨rfl, n.down, n.trip, n.zero, by rw [hs]; exact hk k⟩)⟩
theorem fin_ok {S S' : St} {b f : Nm} {P : ByteArray} (n : Dne S [.put b 0 P, .move b f] S') (hb : f ≠ b) (hg : get S.sure b = none) : SaveR S b f (bl P) 0 S' := by
  obtain ⟨h1, h2, h3⟩ := all_get hb hg P
  rw [← n.sure] at h1 h2 h3
  exact ⟨n.row, n.room, n.ok, .inl ⟨rfl, n.down, h1, h2, h3, n.trip⟩⟩
theorem fin_ok2 {S S' : St} {b f : Nm} {P : ByteArray} (n : Dne S [.drop b, .put b 0 P, .move b f] S') (hb : f ≠ b) : SaveR S b f (bl P) 0 S' := by
  obtain ⟨h1, h2, h3⟩ := all_get hb (get_del_same S.sure b) P
  have e : doAll S.sure [.drop b, .put b 0 P, .move b f] = doAll (del S.sure b) [.put b 0 P, .move b f] := rfl
  rw [← e, ← n.sure] at h1 h2 h3
  exact ⟨n.row, n.room, n.ok, .inl ⟨rfl, n.down, h1, h2, fun s hs hf => by rw [h3 s hs hf, get_del_other hs], n.trip⟩⟩
theorem fin_full {S : St} {b f : Nm} {p : List UInt8} (u : Up S [] S) (hg : get S.sure b = none) (hr : 0 ≤ S.room) : SaveR S b f p 7 S :=
  ⟨u.row, rfl, u.ok, .inr (.inl ⟨rfl, u.down, hr, hg, fun _ _ => rfl, fun h => h⟩)⟩
theorem fin_full2 {S S' : St} {b f : Nm} {p : List UInt8} (n : Dne S [.drop b] S') (hr : 0 ≤ S.room) : SaveR S b f p 7 S' := by
  have e : S'.sure = del S.sure b := n.sure
  exact ⟨n.row, n.room, n.ok, .inr (.inl ⟨rfl, n.down, hr, by rw [e, get_del_same], fun s hs => by rw [e, get_del_other hs], n.trip⟩)⟩
theorem moveE_up {S0 S : St} {r : List Chg} {b f : Nm} {l : List UInt8} (u : Up S0 r S) (hnf : nameB f = true) (hnb : nameB b = true) (h : get (doAll S0.sure r) b = some l) : moveE S b f = 0 := by
  unfold moveE findE
  rw [u.down, hnf, hnb, u.now b, h]
  rfl
def SaveW (w : World) (B D m : Nat) (S : St) (b f : Nm) (p : List UInt8) (Q : Nat → Prop) (e : Ending) (w' : World) : Prop :=
  ∃ S' x, e = .returned (.int .i64 x) ∧ DskQ w' B D m S' Q ∧ SaveR S b f p x S' ∧ Below B w w' ∧ Stay w w' Q
theorem DskQ.mono {w : World} {B D m m' : Nat} {S : St} {Q : Nat → Prop} (h : DskQ w B D m S Q) (hm : m ≤ m') (hx : m' ≤ 100000) : DskQ w B D m' S Q := by
  obtain ⟨L, h, o⟩ := h
  exact ⟨L, h.mono hm hx, o⟩
set_option maxHeartbeats 8000000 in
theorem save_none {w : World} {B D m : Nat} {S : St} {Q : Nat → Prop} (b f text : Nm) (hbe : f ++ ⟨#[46, 110, 101, 119]⟩ = b) (hnf : nameB f = true) (hnb : nameB b = true) (hne : f ≠ b) (ht : text.size ≤ 1048576) (d : DskQ w B D m S Q) (ok : Ok S) (hd : S.down = false) (hr : S.row = []) (hm : m < 90000) (hB : B ≤ w.heap.size) (hg : get S.sure b = none) : Calls Try.prog 61 #[.pointer (some ⟨D, 0, none⟩), .string f, .string text] w (SaveW w B D (m + 40) S b f (bl (Ct.packS text)) Q) := by
  have PK := Lib.hid (fun W => Ct.pack_any text ht W)
  have hpk : (Ct.packS text).size ≤ 4194304 := by rw [Ct.pack_size]; omega
  have u0 : Up S [] S := ⟨hd, rfl, hr, rfl, ok, fun h => h⟩
  have hz := (nameB_size hnf).2
  have sz0 : ¬ (9223372036854775807 < f.size + 4) := by omega
  clear hz ht ok hd hr
  generalize Ct.packS text = pk at *
  have hE : findE S b = 4 := by
    unfold findE
    rw [u0.down, hnb, u0.now b]
    show (match get S.sure b with | some _ => (0 : Int) | none => 4) = 4
    rw [hg]
  have hz2 := (nameB_size hnb).2
  have DR := Lib.hid (fun W (h : DskQ W B D m S Q) => dropn b h.dsk (by omega) (by rw [hE]; decide))
  rw [hE] at DR
  clear hz2
  have PF := Lib.hid (fun W (h : DskQ W B D m S Q) (hf : putFull S b pk 0) => putg_full b pk h u0 hnb hpk hf)
  have PT := Lib.hid (fun W (h : DskQ W B D m S Q) (hf : ¬ putFull S b pk 0) => putg b pk h u0 (by simp only [List.length_nil]; omega) hnb hpk hf)
  have MV := Lib.hid (fun W S1 (h : DskQ W B D (m + 5) S1 Q) (u : Up S [.put b 0 pk] S1) => moveg b f h u (by simp only [List.length_cons, List.length_nil]; omega) hnb hnf (moveE_up u hnf hnb (l := bl pk) (by
    show get ((Chg.put b 0 pk).doF S.sure) b = _
    rw [doF_put, gl_none hg, splice_nil, get_put, if_pos rfl])))
  have SY := Lib.hid (fun W S1 (h : DskQ W B D (m + 11) S1 Q) (u : Up S [.put b 0 pk, .move b f] S1) => syncg h u (by simp only [List.length_cons, List.length_nil]; omega))
  have KP := Lib.hid (fun k => keep_put hne pk (bl pk) (fs := S.sure) k)
  have KM := Lib.hid (fun k => keep_move hne hg pk k)
  have HG := Lib.hid hg
  clear hg
  have NE := Lib.hid hne
  have HB := Lib.hid hbe
  clear hbe
  have U0 := Lib.hid u0
  have d0 := Lib.hid d
  clear d hne u0 hE hnb hnf hpk
  go_enter Try.func61, Try.ntmps61
  go_wp2_with fail
  refine (PK.out _).mono ?_
  rintro e w1 ⟨rfl, b1⟩
  have d1 := Lib.hid (d0.out.below b1).1
  have S1 := Lib.hid (d0.out.below b1).2
  have B1 := Lib.hid (b1.mono hB)
  clear b1 d0 PK
  go_wp2_with fail
  rw [HB.out]
  refine (DR.out _ d1.out).mono ?_
  rintro e w2 ⟨rfl, rfl⟩
  by_cases hf : putFull S b pk 0
  · have hroom : 0 ≤ S.room := hf.1
    have PF1 := Lib.hid (PF.out _ d1.out hf)
    clear hf PF PT
    go_wp2_with fail
    refine PF1.out.mono ?_
    rintro e w3 ⟨rfl, b3⟩
    have hB1 := Nat.le_trans hB B1.out.size
    have dN := (d1.out.below b3).1
    have hN := U0.out
    have SS := Lib.hid (S1.out.trans (d1.out.below b3).2)
    have BB := Lib.hid (B1.out.trans (b3.mono hB1))
    clear b3 d1 S1 B1 PF1 hB1
    have FIN : Hid (SaveW w B D (m + 40) S b f (bl pk) Q (.returned (.int .i64 7)) w3) := Lib.hid ⟨_, _, rfl, DskQ.mono dN (by first | omega | (simp only [List.length_nil]; omega) | (simp only [List.length_cons, List.length_nil]; omega)) (by omega), fin_full U0.out HG.out hroom, BB.out, SS.out⟩
    clear dN hN
    go_wp2_with fail
    go_ret
    exact FIN.out
  · have PT1 := Lib.hid (PT.out _ d1.out hf)
    clear hf PF PT
    go_wp2_with fail
    refine PT1.out.mono ?_
    rintro e w3 ⟨S3', x3, rfl, dN, hh, b3, s3⟩
    have B3 := Lib.hid (B1.out.trans b3)
    have S3 := Lib.hid (S1.out.trans s3)
    clear b3 s3 PT1 d1 B1 S1
    have BB := Lib.hid B3.out
    have SS := Lib.hid S3.out
    rcases hh with ⟨rfl, hN⟩ | ⟨rfl, hN⟩
    rotate_left
    · skip
      have FIN : Hid (SaveW w B D (m + 40) S b f (bl pk) Q (.returned (.int .i64 8)) w3) := Lib.hid ⟨_, _, rfl, DskQ.mono dN (by first | omega | (simp only [List.length_nil]; omega) | (simp only [List.length_cons, List.length_nil]; omega)) (by omega), fin_dn hN KP.out, BB.out, SS.out⟩
      clear dN hN
      go_wp2_with fail
      go_ret
      exact FIN.out
    have d3 := Lib.hid dN
    have u3 := Lib.hid hN
    clear dN hN BB SS
    go_wp2_with fail
    refine (MV.out _ _ d3.out u3.out).mono ?_
    rintro e w4 ⟨S4, x4, rfl, dN, hh, b4, s4⟩
    have BB := Lib.hid (B3.out.trans b4)
    have SS := Lib.hid (S3.out.trans s4)
    clear b4 s4 d3 u3 B3 S3 MV
    rcases hh with ⟨rfl, hN⟩ | ⟨rfl, hN⟩
    rotate_left
    · skip
      have FIN : Hid (SaveW w B D (m + 40) S b f (bl pk) Q (.returned (.int .i64 8)) w4) := Lib.hid ⟨_, _, rfl, DskQ.mono dN (by first | omega | (simp only [List.length_nil]; omega) | (simp only [List.length_cons, List.length_nil]; omega)) (by omega), fin_dn hN KM.out, BB.out, SS.out⟩
      clear dN hN
      go_wp2_with fail
      go_ret
      exact FIN.out
    have d4 := Lib.hid dN
    have u4 := Lib.hid hN
    have B4 := Lib.hid BB.out
    have S4h := Lib.hid SS.out
    clear dN hN BB SS
    go_wp2_with fail
    refine (SY.out _ _ d4.out u4.out).mono ?_
    rintro e w5 ⟨S5, x5, rfl, dN, hh, b5, s5⟩
    have BB := Lib.hid (B4.out.trans b5)
    have SS := Lib.hid (S4h.out.trans s5)
    clear b5 s5 d4 u4 B4 S4h SY
    rcases hh with ⟨rfl, hN⟩ | ⟨rfl, hN⟩
    · skip
      have FIN : Hid (SaveW w B D (m + 40) S b f (bl pk) Q (.returned (.int .i64 0)) w5) := Lib.hid ⟨_, _, rfl, DskQ.mono dN (by first | omega | (simp only [List.length_nil]; omega) | (simp only [List.length_cons, List.length_nil]; omega)) (by omega), fin_ok hN NE.out HG.out, BB.out, SS.out⟩
      clear dN hN
      go_wp2_with fail
      go_ret
      exact FIN.out
    · skip
      have FIN : Hid (SaveW w B D (m + 40) S b f (bl pk) Q (.returned (.int .i64 8)) w5) := Lib.hid ⟨_, _, rfl, DskQ.mono dN (by first | omega | (simp only [List.length_nil]; omega) | (simp only [List.length_cons, List.length_nil]; omega)) (by omega), fin_dn hN KM.out, BB.out, SS.out⟩
      clear dN hN
      go_wp2_with fail
      go_ret
      exact FIN.out
set_option maxHeartbeats 8000000 in
theorem save_some {w : World} {B D m : Nat} {S : St} {Q : Nat → Prop} (b f text : Nm) (hbe : f ++ ⟨#[46, 110, 101, 119]⟩ = b) (hnf : nameB f = true) (hnb : nameB b = true) (hne : f ≠ b) (ht : text.size ≤ 1048576) (d : DskQ w B D m S Q) (ok : Ok S) (hd : S.down = false) (hr : S.row = []) (hm : m < 90000) (hB : B ≤ w.heap.size) (hg : get S.sure b ≠ none) : Calls Try.prog 61 #[.pointer (some ⟨D, 0, none⟩), .string f, .string text] w (SaveW w B D (m + 40) S b f (bl (Ct.packS text)) Q) := by
  have PK := Lib.hid (fun W => Ct.pack_any text ht W)
  have hpk : (Ct.packS text).size ≤ 4194304 := by rw [Ct.pack_size]; omega
  have u0 : Up S [] S := ⟨hd, rfl, hr, rfl, ok, fun h => h⟩
  have hz := (nameB_size hnf).2
  have sz0 : ¬ (9223372036854775807 < f.size + 4) := by omega
  clear hz ht ok hd hr
  generalize Ct.packS text = pk at *
  have hE : findE S b = 0 := by
    unfold findE
    rw [u0.down, hnb, u0.now b]
    show (match get S.sure b with | some _ => (0 : Int) | none => 4) = 0
    cases hx : get S.sure b with
    | none => exact absurd hx hg
    | some l => rfl
  have DR := Lib.hid (fun W (h : DskQ W B D m S Q) => dropg b h u0 (by simp only [List.length_nil]; omega) hE)
  have PF := Lib.hid (fun W S1 (h : DskQ W B D (m + 5) S1 Q) (u : Up S [.drop b] S1) (hf : putFull S1 b pk 0) => putg_full b pk h u hnb hpk hf)
  have PT := Lib.hid (fun W S1 (h : DskQ W B D (m + 5) S1 Q) (u : Up S [.drop b] S1) (hf : ¬ putFull S1 b pk 0) => putg b pk h u (by simp only [List.length_cons, List.length_nil]; omega) hnb hpk hf)
  have MV := Lib.hid (fun W S1 (h : DskQ W B D (m + 11) S1 Q) (u : Up S [.drop b, .put b 0 pk] S1) => moveg b f h u (by simp only [List.length_cons, List.length_nil]; omega) hnb hnf (moveE_up u hnf hnb (l := bl pk) (by
    show get ((Chg.put b 0 pk).doF (del S.sure b)) b = _
    rw [doF_put, gl_none (get_del_same _ _), splice_nil, get_put, if_pos rfl])))
  have SY := Lib.hid (fun W S1 (h : DskQ W B D (m + 18) S1 Q) (u : Up S [.drop b, .put b 0 pk, .move b f] S1) => syncg h u (by simp only [List.length_cons, List.length_nil]; omega))
  have SF := Lib.hid (fun W S1 (h : DskQ W B D (m + 5) S1 Q) (u : Up S [.drop b] S1) => syncg h u (by simp only [List.length_cons, List.length_nil]; omega))
  have KD := Lib.hid (fun k => keep_drop (fs := S.sure) hne (r := []) (p := bl pk) (fun k => keep_nil (del S.sure b) b f (bl pk) k) k)
  have KP := Lib.hid (fun k => keep_drop (fs := S.sure) hne (fun k => keep_put (fs := del S.sure b) hne pk (bl pk) k) k)
  have KM := Lib.hid (fun k => keep_drop (fs := S.sure) hne (fun k => keep_move (fs := del S.sure b) hne (get_del_same S.sure b) pk k) k)
  clear hg
  have NE := Lib.hid hne
  have HB := Lib.hid hbe
  clear hbe
  have U0 := Lib.hid u0
  have d0 := Lib.hid d
  clear d hne u0 hE hnb hnf hpk
  go_enter Try.func61, Try.ntmps61
  go_wp2_with fail
  refine (PK.out _).mono ?_
  rintro e w1 ⟨rfl, b1⟩
  have d1 := Lib.hid (d0.out.below b1).1
  have S1 := Lib.hid (d0.out.below b1).2
  have B1 := Lib.hid (b1.mono hB)
  clear b1 d0 PK
  go_wp2_with fail
  rw [HB.out]
  refine (DR.out _ d1.out).mono ?_
  rintro e w2 ⟨S2, x2, rfl, dN, hh, b2, s2⟩
  have BB := Lib.hid (B1.out.trans b2)
  have SS := Lib.hid (S1.out.trans s2)
  clear b2 s2 d1 B1 S1 DR
  rcases hh with ⟨rfl, hN⟩ | ⟨rfl, hN⟩
  rotate_left
  · skip
    have FIN : Hid (SaveW w B D (m + 40) S b f (bl pk) Q (.returned (.int .i64 8)) w2) := Lib.hid ⟨_, _, rfl, DskQ.mono dN (by first | omega | (simp only [List.length_nil]; omega) | (simp only [List.length_cons, List.length_nil]; omega)) (by omega), fin_dn hN KD.out, BB.out, SS.out⟩
    clear dN hN
    go_wp2_with fail
    go_ret
    exact FIN.out
  have d2 := Lib.hid dN
  have u2 := Lib.hid hN
  have hB2 := Nat.le_trans hB BB.out.size
  by_cases hf : putFull S2 b pk 0
  · have hroom : 0 ≤ S.room := by have := hf.1; rw [hN.room] at this; exact this
    have PF1 := Lib.hid (PF.out _ _ dN hN hf)
    clear dN hN hf PF PT
    go_wp2_with fail
    refine PF1.out.mono ?_
    rintro e w3 ⟨rfl, b3⟩
    have d3 := Lib.hid (d2.out.below b3).1
    have S3 := Lib.hid (SS.out.trans (d2.out.below b3).2)
    have B3 := Lib.hid (BB.out.trans (b3.mono hB2))
    clear b3 d2 SS BB PF1
    go_wp2_with fail
    refine (SF.out _ _ d3.out u2.out).mono ?_
    rintro e w4 ⟨S4, x4, rfl, dN, hh, b4, s4⟩
    have BBx := B3.out.trans b4
    have bA := (Below.refl w4.heap.size w4).alloc (Nat.le_refl _) (.cells #[.int .i64 x4, .int .i64 7] 27)
    have BB := Lib.hid (BBx.trans (bA.mono (Nat.le_trans hB BBx.size)))
    have SS := Lib.hid ((S3.out.trans s4).trans (dN.below bA).2)
    have dM := Lib.hid (dN.below bA).1
    have KK := Blk.new w4 27 #[.int .i64 x4, .int .i64 7]
    have c0 : (w4.alloc (.cells #[.int .i64 x4, .int .i64 7] 27)).cell? ⟨w4.heap.size, 0, none⟩ = some (.int .i64 x4) := KK.cell 0
    have c1 : (w4.alloc (.cells #[.int .i64 x4, .int .i64 7] 27)).cell? ⟨w4.heap.size, 1, none⟩ = some (.int .i64 7) := KK.cell 1
    clear b4 s4 d3 u2 B3 S3 SF bA KK BBx
    rcases hh with ⟨rfl, hN⟩ | ⟨rfl, hN⟩
    · have OR := Lib.hid (or_zero c0 c1 (by decide))
      clear c0 c1
      go_wp2_with fail
      refine OR.out.mono ?_
      rintro e w5 ⟨rfl, rfl⟩
      have FIN : Hid (SaveW w B D (m + 40) S b f (bl pk) Q (.returned (.int .i64 7)) (w4.alloc (.cells #[.int .i64 0, .int .i64 7] 27))) := Lib.hid ⟨_, _, rfl, DskQ.mono dM.out (by first | omega | (simp only [List.length_nil]; omega) | (simp only [List.length_cons, List.length_nil]; omega)) (by omega), fin_full2 hN hroom, BB.out, SS.out⟩
      clear dN hN
      go_wp2_with fail
      go_ret
      exact FIN.out
    · have OR := Lib.hid (or_some c0 c1 (by decide))
      clear c0 c1
      go_wp2_with fail
      refine OR.out.mono ?_
      rintro e w5 ⟨rfl, rfl⟩
      have FIN : Hid (SaveW w B D (m + 40) S b f (bl pk) Q (.returned (.int .i64 8)) (w4.alloc (.cells #[.int .i64 8, .int .i64 7] 27))) := Lib.hid ⟨_, _, rfl, DskQ.mono dM.out (by first | omega | (simp only [List.length_nil]; omega) | (simp only [List.length_cons, List.length_nil]; omega)) (by omega), fin_dn hN KD.out, BB.out, SS.out⟩
      clear dN hN
      go_wp2_with fail
      go_ret
      exact FIN.out
  · have PT1 := Lib.hid (PT.out _ _ dN hN hf)
    clear dN hN hf PF PT d2 u2
    go_wp2_with fail
    refine PT1.out.mono ?_
    rintro e w3 ⟨S3', x3, rfl, dN, hh, b3, s3⟩
    have B3 := Lib.hid (BB.out.trans b3)
    have S3 := Lib.hid (SS.out.trans s3)
    clear b3 s3 BB SS PT1
    have BB := Lib.hid B3.out
    have SS := Lib.hid S3.out
    rcases hh with ⟨rfl, hN⟩ | ⟨rfl, hN⟩
    rotate_left
    · skip
      have FIN : Hid (SaveW w B D (m + 40) S b f (bl pk) Q (.returned (.int .i64 8)) w3) := Lib.hid ⟨_, _, rfl, DskQ.mono dN (by first | omega | (simp only [List.length_nil]; omega) | (simp only [List.length_cons, List.length_nil]; omega)) (by omega), fin_dn hN KP.out, BB.out, SS.out⟩
      clear dN hN
      go_wp2_with fail
      go_ret
      exact FIN.out
    have d3 := Lib.hid dN
    have u3 := Lib.hid hN
    clear dN hN BB SS
    go_wp2_with fail
    refine (MV.out _ _ d3.out u3.out).mono ?_
    rintro e w4 ⟨S4, x4, rfl, dN, hh, b4, s4⟩
    have BB := Lib.hid (B3.out.trans b4)
    have SS := Lib.hid (S3.out.trans s4)
    clear b4 s4 d3 u3 B3 S3 MV
    rcases hh with ⟨rfl, hN⟩ | ⟨rfl, hN⟩
    rotate_left
    · skip
      have FIN : Hid (SaveW w B D (m + 40) S b f (bl pk) Q (.returned (.int .i64 8)) w4) := Lib.hid ⟨_, _, rfl, DskQ.mono dN (by first | omega | (simp only [List.length_nil]; omega) | (simp only [List.length_cons, List.length_nil]; omega)) (by omega), fin_dn hN KM.out, BB.out, SS.out⟩
      clear dN hN
      go_wp2_with fail
      go_ret
      exact FIN.out
    have d4 := Lib.hid dN
    have u4 := Lib.hid hN
    have B4 := Lib.hid BB.out
    have S4h := Lib.hid SS.out
    clear dN hN BB SS
    go_wp2_with fail
    refine (SY.out _ _ d4.out u4.out).mono ?_
    rintro e w5 ⟨S5, x5, rfl, dN, hh, b5, s5⟩
    have BB := Lib.hid (B4.out.trans b5)
    have SS := Lib.hid (S4h.out.trans s5)
    clear b5 s5 d4 u4 B4 S4h SY
    rcases hh with ⟨rfl, hN⟩ | ⟨rfl, hN⟩
    · skip
      have FIN : Hid (SaveW w B D (m + 40) S b f (bl pk) Q (.returned (.int .i64 0)) w5) := Lib.hid ⟨_, _, rfl, DskQ.mono dN (by first | omega | (simp only [List.length_nil]; omega) | (simp only [List.length_cons, List.length_nil]; omega)) (by omega), fin_ok2 hN NE.out, BB.out, SS.out⟩
      clear dN hN
      go_wp2_with fail
      go_ret
      exact FIN.out
    · skip
      have FIN : Hid (SaveW w B D (m + 40) S b f (bl pk) Q (.returned (.int .i64 8)) w5) := Lib.hid ⟨_, _, rfl, DskQ.mono dN (by first | omega | (simp only [List.length_nil]; omega) | (simp only [List.length_cons, List.length_nil]; omega)) (by omega), fin_dn hN KM.out, BB.out, SS.out⟩
      clear dN hN
      go_wp2_with fail
      go_ret
      exact FIN.out
theorem save_gen {w : World} {B D m : Nat} {S : St} {Q : Nat → Prop} (b f text : Nm) (hbe : f ++ ⟨#[46, 110, 101, 119]⟩ = b) (hnf : nameB f = true) (hnb : nameB b = true) (hne : f ≠ b) (ht : text.size ≤ 1048576) (d : DskQ w B D m S Q) (ok : Ok S) (hd : S.down = false) (hr : S.row = []) (hm : m < 90000) (hB : B ≤ w.heap.size) : Calls Try.prog 61 #[.pointer (some ⟨D, 0, none⟩), .string f, .string text] w (SaveW w B D (m + 40) S b f (bl (Ct.packS text)) Q) := by
  by_cases hg : get S.sure b = none
  · exact save_none b f text hbe hnf hnb hne ht d ok hd hr hm hB hg
  · exact save_some b f text hbe hnf hnb hne ht d ok hd hr hm hB hg
end Go.Proofs.Ythdkflmkcoabaaa
/-
  A PACK IS FOUND, plain; a snapshot loaded off a disk; LoadVote, LoadSnap and loads off a disk that says something.
-/
namespace Go.Proofs.Ythdkflmkcoabaaa
open Go.RowKit
section
open Ct
theorem head3_list (n : Nat) (h : n ≤ 1048576) : ((head3 n).map fun m => UInt8.ofNat m.toNat) = [UInt8.ofNat (n / 65536), UInt8.ofNat (n / 256 % 256), UInt8.ofNat (n % 256)] := by
  simp only [head3, List.map_cons, List.map_nil]
  have e1 : (((n : Int) / 65536).toNat) = n / 65536 := by omega
  have e2 : (((n : Int) / 256 % 256).toNat) = n / 256 % 256 := by omega
  have e3 : (((n : Int) % 256).toNat) = n % 256 := by omega
  rw [e1, e2, e3]
/-- the bytes of a front: three for the length, and the body -/
theorem front_list (b : ByteArray) (h : b.size ≤ 1048576) : (frontS b).data.toList = [UInt8.ofNat (b.size / 65536), UInt8.ofNat (b.size / 256 % 256), UInt8.ofNat (b.size % 256)] ++ b.data.toList := by
  unfold frontS
  rw [Bt.cat_data, strOfNums_data, head3_list _ h]
theorem ofNat_toNat {n : Nat} (h : n < 256) : (UInt8.ofNat n).toNat = n := by rw [UInt8.toNat_ofNat']; omega
/-- whatever begins with a front's first three bytes says the body's length -/
theorem len3_front {t : List UInt8} {S : ByteArray} (b : ByteArray) (h : b.size ≤ 1048576) (hS : S.data.toList = [UInt8.ofNat (b.size / 65536), UInt8.ofNat (b.size / 256 % 256), UInt8.ofNat (b.size % 256)] ++ t) : len3 S = b.size := by
  unfold len3
  rw [hS]
  simp only [List.cons_append, List.nil_append, List.getD_cons_zero, List.getD_cons_succ]
  rw [ofNat_toNat (by omega), ofNat_toNat (by omega), ofNat_toNat (by omega)]
  omega
theorem pack_list (b : ByteArray) (h : b.size ≤ 1048576) (t : ByteArray) : (packS b ++ t).data.toList = [UInt8.ofNat (b.size / 65536), UInt8.ofNat (b.size / 256 % 256), UInt8.ofNat (b.size % 256)] ++ (b.data.toList ++ ((footS (frontS b)).data.toList ++ t.data.toList)) := by
  unfold packS
  rw [Bt.cat_data, Bt.cat_data, front_list b h]
  simp
/-- a pack at the front is found -/
theorem unp_pack (b t : ByteArray) (h : b.size ≤ 1048576) : unp (packS b ++ t) = (b, t, 0) := by
  have hl : len3 (packS b ++ t) = b.size := len3_front b h (pack_list b h t)
  have hs : (packS b ++ t).size = b.size + 7 + t.size := by rw [ByteArray.size_append, pack_size]
  have hf : (footS (frontS b)).data.toList.length = 4 := by rw [← Lib.size_eq]; exact foot_size _
  have hb : b.data.toList.length = b.size := (Lib.size_eq b).symm
  have e1 : (packS b ++ t).extract 0 (b.size + 3) = frontS b := by
    apply Bt.bytes_ext
    rw [Lib.extract_data, pack_list b h, front_list b h]
    simp [hb]
  have e2 : (packS b ++ t).extract (b.size + 3) (b.size + 7) = footS (frontS b) := by
    apply Bt.bytes_ext
    rw [Lib.extract_data, pack_list b h, show b.size + 7 - (b.size + 3) = 4 by omega, show b.size + 3 = 3 + b.size by omega, ← List.drop_drop]
    simp [List.drop_append, hb, hf]
  have e3 : (packS b ++ t).extract 3 (b.size + 3) = b := by
    apply Bt.bytes_ext
    rw [Lib.extract_data, pack_list b h]
    simp [hb]
  have e4 : (packS b ++ t).extract (b.size + 7) (packS b ++ t).size = t := by
    apply Bt.bytes_ext
    rw [Lib.extract_data, List.take_of_length_le (by rw [List.length_drop, ← Lib.size_eq]; exact Nat.le_refl _), pack_list b h]
    rw [show b.size + 7 = 3 + (b.size + 4) by omega, ← List.drop_drop]
    simp [List.drop_append, hb, hf]
  rw [Ct.unp_eq _ (by omega), hl, if_neg (by omega), if_neg (by omega), e1, e2, e3, e4, if_neg (by simp)]
end
theorem unp_pack0 (b : ByteArray) (h : b.size ≤ 1048576) : Ct.unp (Ct.packS b) = (b, ⟨#[]⟩, 0) := by
  have := unp_pack b ⟨#[]⟩ h
  rw [app_nil] at this
  exact this
set_option maxHeartbeats 4000000 in
/-- where a file says a snapshot -/
theorem loadS_ok {p : Option Addr} {nm x b s : ByteArray} {i t m : Int} {w : World} (hR : ∀ W, Below w.heap.size w W → Calls Try.prog 30 #[.pointer p, .string nm] W fun e w' => e = .returned (.tuple #[.string x, .int .i64 0]) ∧ W = w') (hx : x.size ≤ 281474976710656) (hb : b.size ≤ 281474976710656) (hu : Ct.unp x = (b, ⟨#[]⟩, 0)) (hr : rsV b = (i, t, m, s, 0)) :
    Calls Try.prog 59 #[.pointer p, .string nm, .func (.func 16) #[] #[]] w fun e w' => e = .returned (.tuple #[snapV i t m s, .bool true, .int .i64 0]) ∧ Below w.heap.size w w' := by
  have RD := Lib.hid hR
  have UN := Lib.hid (fun W => Ct.unpack_any x hx W)
  have RV := Lib.hid (fun W => readSnap_any b hb W)
  rw [hu] at UN
  rw [hr] at RV
  simp only [Ct.unpV] at UN RV
  clear hR hu hr
  unfold snapV at *
  have K0 := Lib.hid (Blk.new w 25 #[.int .i64 0, .int .i64 0, .int .i64 0, .string ⟨#[]⟩])
  have bA := Lib.hid ((Below.refl _ w).alloc (Nat.le_refl _) (.cells #[.int .i64 0, .int .i64 0, .int .i64 0, .string ⟨#[]⟩] 25))
  have RE := Lib.hid (RD.out _ bA.out)
  clear RD
  generalize hy : w.heap.size = Y at *
  go_enter Try.func59, Try.ntmps59
  go_wp2_with fail
  refine RE.out.mono ?_
  rintro e w1 ⟨rfl, rfl⟩
  go_wp2_with fail
  refine (UN.out _).mono ?_
  rintro e w2 ⟨rfl, b2⟩
  have K2 := Lib.hid (K0.out.below b2 (by simp [hy]))
  have B2 := Lib.hid (bA.out.trans (b2.mono (by simp [hy])))
  clear b2 K0 bA RE UN
  go_wp2_with fail
  refine (RV.out _).mono ?_
  rintro e w3 ⟨rfl, b3⟩
  have KK := Lib.hid (K2.out.below b3 K2.out.lt)
  have B3 := Lib.hid (B2.out.trans (b3.mono (by have := B2.out.size; omega)))
  clear b3 K2 B2 RV
  have c0 : w3.cell? ⟨Y, 0, none⟩ = some (.int .i64 0) := KK.out.cell 0
  have c1 : w3.cell? ⟨Y, 1, none⟩ = some (.int .i64 0) := KK.out.cell 1
  have c2 : w3.cell? ⟨Y, 2, none⟩ = some (.int .i64 0) := KK.out.cell 2
  have c3 : w3.cell? ⟨Y, 3, none⟩ = some (.string ⟨#[]⟩) := KK.out.cell 3
  have f0 : w3.frozen? ⟨Y, 0, none⟩ = false := KK.out.free 0
  have f1 : w3.frozen? ⟨Y, 1, none⟩ = false := KK.out.free 1
  have f2 : w3.frozen? ⟨Y, 2, none⟩ = false := KK.out.free 2
  have f3 : w3.frozen? ⟨Y, 3, none⟩ = false := KK.out.free 3
  go_wp2_with fail
  have K5 := (set4_all (.int .i64 i) (.int .i64 t) (.int .i64 m) (.string s) KK.out).1
  have B5 := set4_below (.int .i64 i) (.int .i64 t) (.int .i64 m) (.string s) KK.out B3.out
  have K6 := (set4_all (.int .i64 i) (.int .i64 t) (.int .i64 m) (.string s) K5).1
  have B6 := set4_below (.int .i64 i) (.int .i64 t) (.int .i64 m) (.string s) K5 B5
  unfold set4 at K6 B6
  clear c0 c1 c2 c3 f0 f1 f2 f3 KK B3 K5 B5
  generalize (World.setCell (World.setCell (World.setCell (World.setCell (World.setCell (World.setCell (World.setCell (World.setCell w3 ⟨Y, 0, none⟩ (.int .i64 i)) ⟨Y, 1, none⟩ (.int .i64 t)) ⟨Y, 2, none⟩ (.int .i64 m)) ⟨Y, 3, none⟩ (.string s)) ⟨Y, 0, none⟩ (.int .i64 i)) ⟨Y, 1, none⟩ (.int .i64 t)) ⟨Y, 2, none⟩ (.int .i64 m)) ⟨Y, 3, none⟩ (.string s)) = w9 at *
  have z0 : w9.cell? ⟨Y, 0, none⟩ = some (.int .i64 i) := K6.cell 0
  have z1 : w9.cell? ⟨Y, 1, none⟩ = some (.int .i64 t) := K6.cell 1
  have z2 : w9.cell? ⟨Y, 2, none⟩ = some (.int .i64 m) := K6.cell 2
  have z3 : w9.cell? ⟨Y, 3, none⟩ = some (.string s) := K6.cell 3
  refine bodyPost_ret (by simp [results, Try.results59, go_sem, z0, z1, z2, z3]; try rfl) rfl ?_
  exact ⟨rfl, B6⟩
set_option maxHeartbeats 4000000 in
theorem loadSnap_gen {p : Option Addr} {i t m n : Int} {s : ByteArray} {bb : Bool} {w : World} (hL : ∀ W, Below w.heap.size w W → Calls Try.prog 59 #[.pointer p, .string ⟨#[115, 110, 97, 112]⟩, .func (.func 16) #[] #[]] W fun e w' => e = .returned (.tuple #[snapV i t m s, .bool bb, .int .i64 n]) ∧ Below W.heap.size W w') :
    Calls Try.prog 32 #[.pointer p] w fun e w' => e = .returned (.tuple #[snapV i t m s, .bool bb, .int .i64 n]) ∧ Below w.heap.size w w' := by
  have RD := Lib.hid hL
  clear hL
  unfold snapV at *
  have K0 := Lib.hid (Blk.new w 25 #[.int .i64 0, .int .i64 0, .int .i64 0, .string ⟨#[]⟩])
  have bA := Lib.hid ((Below.refl _ w).alloc (Nat.le_refl _) (.cells #[.int .i64 0, .int .i64 0, .int .i64 0, .string ⟨#[]⟩] 25))
  have RE := Lib.hid (RD.out _ bA.out)
  clear RD
  generalize hy : w.heap.size = Y at *
  go_enter Try.func32, Try.ntmps32
  go_wp2_with fail
  refine RE.out.mono ?_
  rintro e w1 ⟨rfl, b1⟩
  have KK := Lib.hid (K0.out.below b1 (by simp [hy]))
  have B1 := Lib.hid (bA.out.trans (b1.mono (by simp [hy])))
  clear b1 K0 bA RE
  have c0 : w1.cell? ⟨Y, 0, none⟩ = some (.int .i64 0) := KK.out.cell 0
  have c1 : w1.cell? ⟨Y, 1, none⟩ = some (.int .i64 0) := KK.out.cell 1
  have c2 : w1.cell? ⟨Y, 2, none⟩ = some (.int .i64 0) := KK.out.cell 2
  have c3 : w1.cell? ⟨Y, 3, none⟩ = some (.string ⟨#[]⟩) := KK.out.cell 3
  have f0 : w1.frozen? ⟨Y, 0, none⟩ = false := KK.out.free 0
  have f1 : w1.frozen? ⟨Y, 1, none⟩ = false := KK.out.free 1
  have f2 : w1.frozen? ⟨Y, 2, none⟩ = false := KK.out.free 2
  have f3 : w1.frozen? ⟨Y, 3, none⟩ = false := KK.out.free 3
  go_wp2_with fail
  have K6 := (set4_all (.int .i64 i) (.int .i64 t) (.int .i64 m) (.string s) KK.out).1
  have B6 := set4_below (.int .i64 i) (.int .i64 t) (.int .i64 m) (.string s) KK.out B1.out
  unfold set4 at K6 B6
  clear c0 c1 c2 c3 f0 f1 f2 f3 KK B1
  generalize (World.setCell (World.setCell (World.setCell (World.setCell w1 ⟨Y, 0, none⟩ (.int .i64 i)) ⟨Y, 1, none⟩ (.int .i64 t)) ⟨Y, 2, none⟩ (.int .i64 m)) ⟨Y, 3, none⟩ (.string s)) = w9 at *
  have z0 : w9.cell? ⟨Y, 0, none⟩ = some (.int .i64 i) := K6.cell 0
  have z1 : w9.cell? ⟨Y, 1, none⟩ = some (.int .i64 t) := K6.cell 1
  have z2 : w9.cell? ⟨Y, 2, none⟩ = some (.int .i64 m) := K6.cell 2
  have z3 : w9.cell? ⟨Y, 3, none⟩ = some (.string s) := K6.cell 3
  refine bodyPost_ret (by simp [results, Try.results32, go_sem, z0, z1, z2, z3]; try rfl) rfl ?_
  exact ⟨rfl, B6⟩
/-- what a disk says: the vote, the snapshot, and whether there is one -/
structure Says (F : Fm) (a b i t m : Int) (s : ByteArray) (some' : Bool) : Prop where
  v : (get F nV = none ∧ a = 0 ∧ b = -1) ∨ (voteB a b = true ∧ get F nV = some (bl (Ct.packS (voteS a b))))
  x : (some' = false ∧ get F nS = none ∧ i = 0 ∧ t = 0 ∧ m = 0 ∧ s = ⟨#[]⟩) ∨ (some' = true ∧ snapB i t m s = true ∧ get F nS = some (bl (Ct.packS (snapS i t m s))))
theorem voteS_size (a b : Int) : (voteS a b).size ≤ 18 := by
  have h1 := Bt.numS_size a
  have h2 : (Bt.intS b).size ≤ 9 := Bt.numS_size _
  unfold voteS
  rw [ByteArray.size_append]
  omega
theorem snapS_size (i t m : Int) (s : ByteArray) : (snapS i t m s).size ≤ s.size + 36 := by
  have h1 := Bt.numS_size i
  have h2 := Bt.numS_size t
  have h3 := Bt.numS_size m
  have h4 := Bt.numS_size (s.size : Int)
  unfold snapS Bt.textS
  simp only [ByteArray.size_append]
  omega
theorem readV_of {S : St} {F : Fm} {f : Nm} (hd : S.down = false) (hA : Alike S.now F) (hn : nameB f = true) : readV S f = (match get F f with | some l => (str l, 0) | none => (str [], 4)) := by
  unfold readV
  rw [hd, hn, hA f]
  rfl
theorem lv_any {w : World} {B D mm : Nat} {S : St} {F : Fm} {a b i t m : Int} {s : ByteArray} {sm : Bool} (d : Dsk w B D mm S) (hd : S.down = false) (hA : Alike S.now F) (h : Says F a b i t m s sm) :
    Calls Try.prog 31 #[.pointer (some ⟨D, 0, none⟩)] w fun e w' => e = .returned (.tuple #[voteV a b, .int .i64 0]) ∧ Below w.heap.size w w' := by
  rcases h.v with ⟨hg, rfl, rfl⟩ | ⟨hv, hg⟩
  · have hr := readV_of hd hA nameV
    rw [hg] at hr
    exact loadVote_of (t := 0) (f := 0) (n := 0) (b := false) fun W bW => load_err (n := 4) (x := str []) (fun W' bW' => by
      have := readd ((d.below bW).below bW') nV (by decide)
      rw [hr] at this
      exact this) (by decide)
  · have hr := readV_of hd hA nameV
    rw [hg] at hr
    have hz := voteS_size a b
    exact loadVote_of (t := a) (f := b) (n := 0) (b := true) fun W bW => load_ok (x := Ct.packS (voteS a b)) (b := voteS a b) (fun W' bW' => by
      have := readd ((d.below bW).below bW') nV (by decide)
      rw [hr] at this
      exact this) (by rw [Ct.pack_size]; omega) (by omega) (unp_pack0 _ (by omega)) (rdV_was hv)
theorem nameS : nameB nS = true := by decide +kernel
theorem ls_any {w : World} {B D mm : Nat} {S : St} {F : Fm} {a b i t m : Int} {s : ByteArray} {sm : Bool} (d : Dsk w B D mm S) (hd : S.down = false) (hA : Alike S.now F) (h : Says F a b i t m s sm) :
    Calls Try.prog 32 #[.pointer (some ⟨D, 0, none⟩)] w fun e w' => e = .returned (.tuple #[snapV i t m s, .bool sm, .int .i64 0]) ∧ Below w.heap.size w w' := by
  rcases h.x with ⟨rfl, hg, rfl, rfl, rfl, rfl⟩ | ⟨rfl, hv, hg⟩
  · have hr := readV_of hd hA nameS
    rw [hg] at hr
    exact loadSnap_gen fun W bW => loadS_err (n := 4) (x := str []) (fun W' bW' => by
      have := readd ((d.below bW).below bW') nS (by decide)
      rw [hr] at this
      exact this) (by decide)
  · have hr := readV_of hd hA nameS
    rw [hg] at hr
    have hz := snapS_size i t m s
    have hq := (snapB_bd hv).2.2.2.2.2.2
    exact loadSnap_gen fun W bW => loadS_ok (x := Ct.packS (snapS i t m s)) (b := snapS i t m s) (fun W' bW' => by
      have := readd ((d.below bW).below bW') nS (by decide)
      rw [hr] at this
      exact this) (by rw [Ct.pack_size]; omega) (by omega) (unp_pack0 _ (by omega)) (rsV_was hv)
set_option maxHeartbeats 4000000 in
/-- loads: just if it says these -/
theorem loads_any {w : World} {B D mm : Nat} {S : St} {F : Fm} {a b i t m a' b' i' t' m' : Int} {s s' : ByteArray} {sm sm' : Bool} (d : Dsk w B D mm S) (hd : S.down = false) (hA : Alike S.now F) (h : Says F a b i t m s sm) :
    Calls Try.prog 25 #[.pointer (some ⟨D, 0, none⟩), voteV a' b', snapV i' t' m' s', .bool sm'] w fun e w' => e = .returned (.bool ((a == a' && b == b') && (sm == sm' && (i == i' && (t == t' && (m == m' && s.toList == s'.toList)))))) ∧ Below w.heap.size w w' := by
  have P0 := Pv.start w #[.int .i64 a', .int .i64 b'] #[.int .i64 i', .int .i64 t', .int .i64 m', .string s']
  have LV := Lib.hid (fun W (hW : Below w.heap.size w W) => lv_any (d.below hW) hd hA h)
  have LS := Lib.hid (fun W (hW : Below w.heap.size w W) => ls_any (d.below hW) hd hA h)
  have LV1 := Lib.hid (LV.out _ P0.b)
  have P0h := Lib.hid P0
  clear d hd hA h LV P0
  unfold voteV snapV at *
  go_enter Try.func25, Try.ntmps25
  go_wp2_with fail
  refine LV1.out.mono ?_
  rintro e w1 ⟨rfl, b1⟩
  have P1 := (P0h.out.step b1).al (.cells #[.int .i64 a, .int .i64 b] 23)
  have LS1 := Lib.hid (LS.out _ P1.b)
  have P1h := Lib.hid P1
  have K1 := Lib.hid (Blk.new w1 23 #[.int .i64 a, .int .i64 b])
  clear b1 P1 P0h LV1 LS
  go_wp2_with fail
  refine LS1.out.mono ?_
  rintro e w2 ⟨rfl, b2⟩
  have bA := (Below.refl w2.heap.size w2).alloc (Nat.le_refl _) (.cells #[.int .i64 i, .int .i64 t, .int .i64 m, .string s] 25)
  have K2 := (K1.out.below b2 K1.out.lt).below bA (by have := K1.out.lt; have := b2.size; omega)
  have P2 := (P1h.out.step b2).step bA
  have c0 : (w2.alloc (.cells #[.int .i64 i, .int .i64 t, .int .i64 m, .string s] 25)).cell? ⟨w1.heap.size, 0, none⟩ = some (.int .i64 a) := K2.cell 0
  have c1 : (w2.alloc (.cells #[.int .i64 i, .int .i64 t, .int .i64 m, .string s] 25)).cell? ⟨w1.heap.size, 1, none⟩ = some (.int .i64 b) := K2.cell 1
  have d0 : (w2.alloc (.cells #[.int .i64 i, .int .i64 t, .int .i64 m, .string s] 25)).cell? ⟨w.heap.size, 0, none⟩ = some (.int .i64 a') := P2.v.cell 0
  have d1 : (w2.alloc (.cells #[.int .i64 i, .int .i64 t, .int .i64 m, .string s] 25)).cell? ⟨w.heap.size, 1, none⟩ = some (.int .i64 b') := P2.v.cell 1
  have g0 : (w2.alloc (.cells #[.int .i64 i, .int .i64 t, .int .i64 m, .string s] 25)).cell? ⟨w.heap.size + 1, 0, none⟩ = some (.int .i64 i') := P2.x.cell 0
  have g1 : (w2.alloc (.cells #[.int .i64 i, .int .i64 t, .int .i64 m, .string s] 25)).cell? ⟨w.heap.size + 1, 1, none⟩ = some (.int .i64 t') := P2.x.cell 1
  have g2 : (w2.alloc (.cells #[.int .i64 i, .int .i64 t, .int .i64 m, .string s] 25)).cell? ⟨w.heap.size + 1, 2, none⟩ = some (.int .i64 m') := P2.x.cell 2
  have g3 : (w2.alloc (.cells #[.int .i64 i, .int .i64 t, .int .i64 m, .string s] 25)).cell? ⟨w.heap.size + 1, 3, none⟩ = some (.string s') := P2.x.cell 3
  have BB := Lib.hid P2.b
  clear bA K2 P2 K1 P1h b2 LS1
  go_wp2_with fail
  all_goals (go_ret; refine ⟨ret_b (by simp_all), ?_⟩; have h := BB.out; subst_vars; exact h)
end Go.Proofs.Ythdkflmkcoabaaa
/-
  SaveVote, SaveSnap AND the law's save ON ANY DISK.
-/
namespace Go.Proofs.Ythdkflmkcoabaaa
open Go.RowKit
def nM : Nm := nS ++ ⟨#[46, 110, 101, 119]⟩
theorem nameM : nameB nM = true := by decide +kernel
theorem neV : nV ≠ nN := by decide +kernel
theorem neS : nS ≠ nM := by decide +kernel
section
variable {w : World} {B D m : Nat} {S : St} {Q : Nat → Prop}
set_option maxHeartbeats 4000000 in
theorem saveVote_no {a b : Int} (h : voteB a b = false) (hB : B ≤ w.heap.size) (d : DskQ w B D m S Q) : Calls Try.prog 34 #[.pointer (some ⟨D, 0, none⟩), voteV a b] w fun e w' => e = .returned (.int .i64 1) ∧ DskQ w' B D m S Q ∧ Below B w w' ∧ Stay w w' Q := by
  have bA := (Below.refl _ w).alloc (Nat.le_refl _) (.cells #[.int .i64 a, .int .i64 b] 23)
  have V := Lib.hid (vote_no h (w.alloc (.cells #[.int .i64 a, .int .i64 b] 23)))
  have d0 := Lib.hid d
  have BA := Lib.hid bA
  clear d bA
  unfold voteV at *
  generalize hy : w.heap.size = Y at *
  go_enter Try.func34, Try.ntmps34
  go_wp2_with fail
  refine V.out.mono ?_
  rintro e w1 ⟨rfl, b1⟩
  have B1 := BA.out.trans (b1.mono (by simp [hy]))
  have FIN : Hid (DskQ w1 B D m S Q ∧ Below B w w1 ∧ Stay w w1 Q) := Lib.hid (by
    rw [← hy] at B1
    exact ⟨(d0.out.below B1).1, B1.mono (by omega), (d0.out.below B1).2⟩)
  clear b1 B1
  go_wp2_with fail
  go_ret
  exact ⟨rfl, FIN.out⟩
set_option maxHeartbeats 4000000 in
theorem saveVote_gen {a b : Int} (h : voteB a b = true) (d : DskQ w B D m S Q) (ok : Ok S) (hd : S.down = false) (hr : S.row = []) (hm : m < 90000) (hB : B ≤ w.heap.size) : Calls Try.prog 34 #[.pointer (some ⟨D, 0, none⟩), voteV a b] w (SaveW w B D (m + 40) S nN nV (bl (Ct.packS (voteS a b))) Q) := by
  have bA := (Below.refl _ w).alloc (Nat.le_refl _) (.cells #[.int .i64 a, .int .i64 b] 23)
  have V := Lib.hid (vote_ok h (w.alloc (.cells #[.int .i64 a, .int .i64 b] 23)))
  have d1 := Lib.hid (d.below bA)
  have BA := Lib.hid (bA.mono hB)
  have hB1 := Nat.le_trans hB bA.size
  have hz := voteS_size a b
  have SV := Lib.hid (fun W (h : DskQ W B D m S Q) (hW : B ≤ W.heap.size) => save_gen nN nV (voteS a b) rfl nameV nameN neV (by omega) h ok hd hr hm hW)
  generalize bl (Ct.packS (voteS a b)) = pk at *
  generalize voteS a b = bv at *
  have SV : Hid (∀ W, DskQ W B D m S Q → B ≤ W.heap.size → Calls Try.prog 61 #[.pointer (some ⟨D, 0, none⟩), .string ⟨#[118, 111, 116, 101]⟩, .string bv] W (SaveW W B D (m + 40) S nN nV pk Q)) := SV
  clear d bA ok hd hr hz h
  unfold voteV at *
  generalize hy : w.heap.size = Y at *
  go_enter Try.func34, Try.ntmps34
  go_wp2_with fail
  refine V.out.mono ?_
  rintro e w1 ⟨rfl, b1⟩
  have dd := d1.out.1.below b1
  have SV1 := Lib.hid (SV.out _ dd.1 (Nat.le_trans hB1 b1.size))
  have S1 := Lib.hid (d1.out.2.trans dd.2)
  have B1 := Lib.hid (BA.out.trans (b1.mono hB1))
  clear b1 BA V d1 SV hB1 dd
  go_wp2_with fail
  refine SV1.out.mono ?_
  rintro e w2 ⟨S2, x2, rfl, d2, r2, b2, s2⟩
  have FIN : Hid (SaveW w B D (m + 40) S nN nV pk Q (.returned (.int .i64 x2)) w2) := Lib.hid ⟨S2, x2, rfl, d2, r2, B1.out.trans b2, S1.out.trans s2⟩
  clear d2 r2 b2 s2 B1 S1 SV1
  go_wp2_with fail
  go_ret
  exact FIN.out
set_option maxHeartbeats 4000000 in
theorem saveSnap_no {i t k : Int} {s : ByteArray} (h : snapB i t k s = false) (hB : B ≤ w.heap.size) (d : DskQ w B D m S Q) : Calls Try.prog 35 #[.pointer (some ⟨D, 0, none⟩), snapV i t k s] w fun e w' => e = .returned (.int .i64 1) ∧ DskQ w' B D m S Q ∧ Below B w w' ∧ Stay w w' Q := by
  have bA := (Below.refl _ w).alloc (Nat.le_refl _) (.cells #[.int .i64 i, .int .i64 t, .int .i64 k, .string s] 25)
  have V := Lib.hid (snap_no h (w.alloc (.cells #[.int .i64 i, .int .i64 t, .int .i64 k, .string s] 25)))
  have d0 := Lib.hid d
  have BA := Lib.hid bA
  clear d bA
  unfold snapV at *
  generalize hy : w.heap.size = Y at *
  go_enter Try.func35, Try.ntmps35
  go_wp2_with fail
  refine V.out.mono ?_
  rintro e w1 ⟨rfl, b1⟩
  have B1 := BA.out.trans (b1.mono (by simp [hy]))
  have FIN : Hid (DskQ w1 B D m S Q ∧ Below B w w1 ∧ Stay w w1 Q) := Lib.hid (by
    rw [← hy] at B1
    exact ⟨(d0.out.below B1).1, B1.mono (by omega), (d0.out.below B1).2⟩)
  clear b1 B1
  go_wp2_with fail
  go_ret
  exact ⟨rfl, FIN.out⟩
set_option maxHeartbeats 4000000 in
theorem saveSnap_gen {i t k : Int} {s : ByteArray} (h : snapB i t k s = true) (d : DskQ w B D m S Q) (ok : Ok S) (hd : S.down = false) (hr : S.row = []) (hm : m < 90000) (hB : B ≤ w.heap.size) : Calls Try.prog 35 #[.pointer (some ⟨D, 0, none⟩), snapV i t k s] w (SaveW w B D (m + 40) S nM nS (bl (Ct.packS (snapS i t k s))) Q) := by
  have bA := (Below.refl _ w).alloc (Nat.le_refl _) (.cells #[.int .i64 i, .int .i64 t, .int .i64 k, .string s] 25)
  have V := Lib.hid (snap_ok h (w.alloc (.cells #[.int .i64 i, .int .i64 t, .int .i64 k, .string s] 25)))
  have d1 := Lib.hid (d.below bA)
  have BA := Lib.hid (bA.mono hB)
  have hB1 := Nat.le_trans hB bA.size
  have hz := snapS_size i t k s
  have hq := (snapB_bd h).2.2.2.2.2.2
  have SV := Lib.hid (fun W (h : DskQ W B D m S Q) (hW : B ≤ W.heap.size) => save_gen nM nS (snapS i t k s) rfl nameS nameM neS (by omega) h ok hd hr hm hW)
  generalize bl (Ct.packS (snapS i t k s)) = pk at *
  generalize snapS i t k s = bv at *
  have SV : Hid (∀ W, DskQ W B D m S Q → B ≤ W.heap.size → Calls Try.prog 61 #[.pointer (some ⟨D, 0, none⟩), .string ⟨#[115, 110, 97, 112]⟩, .string bv] W (SaveW W B D (m + 40) S nM nS pk Q)) := SV
  clear d bA ok hd hr hz h hq
  unfold snapV at *
  generalize hy : w.heap.size = Y at *
  go_enter Try.func35, Try.ntmps35
  go_wp2_with fail
  refine V.out.mono ?_
  rintro e w1 ⟨rfl, b1⟩
  have dd := d1.out.1.below b1
  have SV1 := Lib.hid (SV.out _ dd.1 (Nat.le_trans hB1 b1.size))
  have S1 := Lib.hid (d1.out.2.trans dd.2)
  have B1 := Lib.hid (BA.out.trans (b1.mono hB1))
  clear b1 BA V d1 SV hB1 dd
  go_wp2_with fail
  refine SV1.out.mono ?_
  rintro e w2 ⟨S2, x2, rfl, d2, r2, b2, s2⟩
  have FIN : Hid (SaveW w B D (m + 40) S nM nS pk Q (.returned (.int .i64 x2)) w2) := Lib.hid ⟨S2, x2, rfl, d2, r2, B1.out.trans b2, S1.out.trans s2⟩
  clear d2 r2 b2 s2 B1 S1 SV1
  go_wp2_with fail
  go_ret
  exact FIN.out
/-- a saving: which, and what -/
structure Sv where
  k : Bool
  a : Int
  b : Int
  i : Int
  t : Int
  m : Int
  s : ByteArray
def Sv.cells (x : Sv) : Array Value := #[.bool x.k, .int .i64 x.a, .int .i64 x.b, .int .i64 x.i, .int .i64 x.t, .int .i64 x.m, .string x.s]
def Sv.may (x : Sv) : Bool := if x.k then snapB x.i x.t x.m x.s else voteB x.a x.b
def Sv.file (x : Sv) : Nm := if x.k then nS else nV
def Sv.fresh (x : Sv) : Nm := if x.k then nM else nN
def Sv.text (x : Sv) : List UInt8 := if x.k then bl (Ct.packS (snapS x.i x.t x.m x.s)) else bl (Ct.packS (voteS x.a x.b))
/-- what it makes of a disk -/
def SvR (S : St) (x : Sv) (n : Int) (S' : St) : Prop := (x.may = true ∧ SaveR S x.fresh x.file x.text n S') ∨ (x.may = false ∧ n = 1 ∧ S' = S)
def SvW (w : World) (B D m : Nat) (S : St) (x : Sv) (Q : Nat → Prop) (e : Ending) (w' : World) : Prop :=
  ∃ S' n, e = .returned (.int .i64 n) ∧ DskQ w' B D (m + 40) S' Q ∧ SvR S x n S' ∧ Below B w w' ∧ Stay w w' Q
theorem vote_sv {x : Sv} (hk : x.k = false) (d : DskQ w B D m S Q) (ok : Ok S) (hd : S.down = false) (hr : S.row = []) (hm : m < 90000) (hB : B ≤ w.heap.size) : Calls Try.prog 34 #[.pointer (some ⟨D, 0, none⟩), voteV x.a x.b] w (SvW w B D m S x Q) := by
  cases h : voteB x.a x.b
  · exact (saveVote_no h hB d).mono fun e w' ⟨he, d', b', s'⟩ => ⟨S, 1, he, d'.mono (by omega) (by omega), .inr ⟨by unfold Sv.may; rw [hk]; exact h, rfl, rfl⟩, b', s'⟩
  · refine (saveVote_gen h d ok hd hr hm hB).mono fun e w' ⟨S', n, he, d', r', b', s'⟩ => ⟨S', n, he, d', .inl ⟨by unfold Sv.may; rw [hk]; exact h, ?_⟩, b', s'⟩
    unfold Sv.fresh Sv.file Sv.text
    rw [hk]
    exact r'
theorem snap_sv {x : Sv} (hk : x.k = true) (d : DskQ w B D m S Q) (ok : Ok S) (hd : S.down = false) (hr : S.row = []) (hm : m < 90000) (hB : B ≤ w.heap.size) : Calls Try.prog 35 #[.pointer (some ⟨D, 0, none⟩), snapV x.i x.t x.m x.s] w (SvW w B D m S x Q) := by
  cases h : snapB x.i x.t x.m x.s
  · exact (saveSnap_no h hB d).mono fun e w' ⟨he, d', b', s'⟩ => ⟨S, 1, he, d'.mono (by omega) (by omega), .inr ⟨by unfold Sv.may; rw [hk]; exact h, rfl, rfl⟩, b', s'⟩
  · refine (saveSnap_gen h d ok hd hr hm hB).mono fun e w' ⟨S', n, he, d', r', b', s'⟩ => ⟨S', n, he, d', .inl ⟨by unfold Sv.may; rw [hk]; exact h, ?_⟩, b', s'⟩
    unfold Sv.fresh Sv.file Sv.text
    rw [hk]
    exact r'
set_option maxHeartbeats 4000000 in
theorem save_sv (x : Sv) (d : DskQ w B D m S Q) (ok : Ok S) (hd : S.down = false) (hr : S.row = []) (hm : m < 90000) (hB : B ≤ w.heap.size) : Calls Try.prog 20 #[.pointer (some ⟨D, 0, none⟩), .agg x.cells] w (SvW w B D m S x Q) := by
  have bA := (Below.refl _ w).alloc (Nat.le_refl _) (.cells x.cells 52)
  have K0 := Blk.new w 52 x.cells
  have dd := d.below bA
  have hB1 := Nat.le_trans hB bA.size
  have FV := Lib.hid (fun (hk : x.k = false) => vote_sv hk dd.1 ok hd hr hm hB1)
  have FS := Lib.hid (fun (hk : x.k = true) => snap_sv hk dd.1 ok hd hr hm hB1)
  have FIN : Hid (∀ e w', SvW (w.alloc (.cells x.cells 52)) B D m S x Q e w' → ∃ n, e = .returned (.int .i64 n) ∧ SvW w B D m S x Q (.returned (.int .i64 n)) w') := Lib.hid (by
    rintro e w' ⟨S', n, rfl, d', r', b', s'⟩
    exact ⟨n, rfl, S', n, rfl, d', r', (bA.mono hB).trans b', dd.2.trans s'⟩)
  clear d bA dd ok hd hr hB1
  obtain ⟨k, a, b, i, t, q, s⟩ := x
  unfold Sv.cells voteV snapV at *
  simp only at FV FS K0 FIN ⊢
  have c0 := K0.cell 0
  have c1 := K0.cell 1
  have c2 := K0.cell 2
  have c3 := K0.cell 3
  have c4 := K0.cell 4
  have c5 := K0.cell 5
  have c6 := K0.cell 6
  simp only [List.getElem?_toArray, List.getElem?_cons_zero, List.getElem?_cons_succ] at c0 c1 c2 c3 c4 c5 c6
  clear K0
  cases k
  · go_enter Try.func20, Try.ntmps20
    go_wp2_with fail
    refine (FV.out trivial).mono ?_
    intro e w1 he
    obtain ⟨n, rfl, hw⟩ := FIN.out e w1 he
    have HW := Lib.hid hw
    clear hw he FV FS FIN c0 c1 c2 c3 c4 c5 c6
    go_wp2_with fail
    go_ret
    exact HW.out
  · go_enter Try.func20, Try.ntmps20
    go_wp2_with fail
    refine (FS.out trivial).mono ?_
    intro e w1 he
    obtain ⟨n, rfl, hw⟩ := FIN.out e w1 he
    have HW := Lib.hid hw
    clear hw he FV FS FIN c0 c1 c2 c3 c4 c5 c6
    go_wp2_with fail
    go_ret
    exact HW.out
end
end Go.Proofs.Ythdkflmkcoabaaa
/-
  SAVINGS IN MEMORY; the disk's other calls with blocks off it that stay; what a disk says behind a saving.
-/
namespace Go.Proofs.Ythdkflmkcoabaaa
open Go.RowKit
/-- savings in memory -/
def Svs (w : World) (a : Option Addr) (L : List Sv) : Prop := ∀ p (h : p < L.length), ∃ g o, a = some ⟨g, o, none⟩ ∧ g < w.heap.size ∧
  w.cell? ⟨g, o + p * 7, none⟩ = some (.bool L[p].k) ∧ w.cell? ⟨g, o + p * 7 + 1, none⟩ = some (.int .i64 L[p].a) ∧ w.cell? ⟨g, o + p * 7 + 2, none⟩ = some (.int .i64 L[p].b) ∧ w.cell? ⟨g, o + p * 7 + 3, none⟩ = some (.int .i64 L[p].i) ∧
  w.cell? ⟨g, o + p * 7 + 4, none⟩ = some (.int .i64 L[p].t) ∧ w.cell? ⟨g, o + p * 7 + 5, none⟩ = some (.int .i64 L[p].m) ∧ w.cell? ⟨g, o + p * 7 + 6, none⟩ = some (.string L[p].s)
theorem Svs.below {w W : World} {a : Option Addr} {L : List Sv} (h : Svs w a L) (hb : Below w.heap.size w W) : Svs W a L := fun p hp => by
  obtain ⟨g, o, e, hg, c0, c1, c2, c3, c4, c5, c6⟩ := h p hp
  have x : ∀ {q : Nat} {v : Value}, w.cell? ⟨g, q, none⟩ = some v → W.cell? ⟨g, q, none⟩ = some v := fun hc => by rw [hb.cell (p := ⟨g, _, none⟩) hg]; exact hc
  exact ⟨g, o, e, Nat.lt_of_lt_of_le hg hb.size, x c0, x c1, x c2, x c3, x c4, x c5, x c6⟩
def Ints (w : World) (a : Option Addr) (xs : List Int) : Prop := ∀ i (h : i < xs.length), ∃ b o, a = some ⟨b, o, none⟩ ∧ b < w.heap.size ∧ w.cell? ⟨b, o + i, none⟩ = some (.int .i64 xs[i])
theorem Ints.below {w w' : World} {a : Option Addr} {xs : List Int} (h : Ints w a xs) (hb : Below w.heap.size w w') : Ints w' a xs := fun i hi => by
  obtain ⟨b, o, e, hl, hc⟩ := h i hi
  exact ⟨b, o, e, Nat.lt_of_lt_of_le hl hb.size, by rw [hb.cell (p := ⟨b, _, none⟩) hl]; exact hc⟩
section
variable {w : World} {B D m : Nat} {S : St} {Q : Nat → Prop}
theorem DskQ.base (h : DskQ w B D m S Q) : B ≤ w.heap.size := by
  obtain ⟨L, h, _⟩ := h
  exact Nat.le_trans h.base (Nat.le_of_lt h.blk.lt)
theorem DskQ.at (_h : DskQ w B D m S Q) {w' : World} {S' : St} {L : Lie} (hd : DkL w B D m S L) (o : Off w D L Q) (d : DkL w' B D m S' L) (F : Fr w w' (fun q => q = D)) : DskQ w' B D m S' Q ∧ Below B w w' ∧ Stay w w' Q := by
  have F' : Fr w w' (L.foot D) := F.mono (fun _ _ e => .inl e)
  have s := o.step (L' := L) F' (fun q hq => .inl hq)
  exact ⟨⟨L, d, s.1⟩, Fr.foot hd F', s.2⟩
theorem roomq (n : Int) (h : DskQ w B D m S Q) (ok : Ok S) : Calls Try.prog 27 #[.pointer (some ⟨D, 0, none⟩), .int .i64 n] w fun e w' => e = .returned (.tuple #[]) ∧ DskQ w' B D m { S with room := n } Q ∧ Ok { S with room := n } ∧ Below B w w' ∧ Stay w w' Q := by
  obtain ⟨L, hd, o⟩ := h
  refine (room_any hd n).mono fun e w' ⟨he, d, F⟩ => ?_
  have k := DskQ.at ⟨L, hd, o⟩ hd o d F
  exact ⟨he, k.1, ⟨ok.may, ok.now, ok.trip, ok.keep, ok.bare⟩, k.2.1, k.2.2⟩
theorem wakeq (h : DskQ w B D m S Q) (ok : Ok S) : Calls Try.prog 24 #[.pointer (some ⟨D, 0, none⟩)] w fun e w' => e = .returned (.tuple #[]) ∧ DskQ w' B D m { S with down := false } Q ∧ Ok { S with down := false } ∧ Below B w w' ∧ Stay w w' Q := by
  obtain ⟨L, hd, o⟩ := h
  refine (wake_any hd).mono fun e w' ⟨he, d, F⟩ => ?_
  have k := DskQ.at ⟨L, hd, o⟩ hd o d F
  exact ⟨he, k.1, ⟨ok.may, ok.now, ok.trip, ok.keep, fun e => by cases e⟩, k.2.1, k.2.2⟩
theorem tripq (n k : Int) (h : DskQ w B D m S Q) (ok : Ok S) (hn : n ≤ 9223372036854775807) (hk : k ≤ 9223372036854775807) : Calls Try.prog 19 #[.pointer (some ⟨D, 0, none⟩), .int .i64 n, .int .i64 k] w fun e w' => e = .returned (.tuple #[]) ∧ DskQ w' B D m { S with trip := atLeast n 1, keep := k } Q ∧ Ok { S with trip := atLeast n 1, keep := k } ∧ Below B w w' ∧ Stay w w' Q := by
  obtain ⟨L, hd, o⟩ := h
  refine (trip_any hd n k).mono fun e w' ⟨he, d, F⟩ => ?_
  have q := DskQ.at ⟨L, hd, o⟩ hd o d F
  exact ⟨he, q.1, ⟨ok.may, ok.now, by simp only [atLeast]; split <;> omega, hk, ok.bare⟩, q.2.1, q.2.2⟩
theorem usedq (h : DskQ w B D m S Q) : ∃ n : Nat, n ≤ 419430400000 ∧ Calls Try.prog 28 #[.pointer (some ⟨D, 0, none⟩)] w fun e w' => e = .returned (.int .i64 (n : Int)) ∧ w = w' := by
  obtain ⟨L, hd, o⟩ := h
  have h1 := sz_small hd.g2.small
  have h2 := hd.g2.few
  have h3 := hd.low
  refine ⟨if S.down then 0 else sz S.now, ?_, (used_any hd).mono fun e w' ⟨he, hw⟩ => ⟨?_, hw⟩⟩
  · split
    · exact Nat.zero_le _
    · have : S.now.length * 4194304 ≤ 100000 * 4194304 := Nat.mul_le_mul_right _ (by omega)
      omega
  · rw [he]; cases S.down <;> rfl
theorem waitsq (h : DskQ w B D m S Q) (hr : S.row = []) : Calls Try.prog 29 #[.pointer (some ⟨D, 0, none⟩)] w fun e w' => e = .returned (.int .i64 0) ∧ w = w' := by
  obtain ⟨L, hd, o⟩ := h
  refine (waits_any hd).mono fun e w' ⟨he, hw⟩ => ⟨?_, hw⟩
  rw [he, hr]; cases S.down <;> rfl
theorem readq {F : Fm} {f : Nm} (h : DskQ w B D m S Q) (hd : S.down = false) (hA : Alike S.now F) (hn : nameB f = true) (hg : get F f = none) : Calls Try.prog 30 #[.pointer (some ⟨D, 0, none⟩), .string f] w fun e w' => e = .returned (.tuple #[.string ⟨#[]⟩, .int .i64 4]) ∧ w = w' := by
  have hz := (nameB_size hn).2
  have hr := readV_of hd hA hn
  rw [hg] at hr
  have := readd h.dsk f (by omega)
  rw [hr] at this
  exact this
theorem failq (k : Int) (h : DskQ w B D m S Q) (ok : Ok S) (hd : S.down = false) (hr : S.row = []) (hm : m < 99990) (hk : k ≤ 9223372036854775807) :
    Calls Try.prog 26 #[.pointer (some ⟨D, 0, none⟩), .int .i64 k] w fun e w' => e = .returned (.tuple #[]) ∧ ∃ S', DskQ w' B D (m + 1) S' Q ∧ Ok S' ∧ S'.down = true ∧ S'.row = [] ∧ S'.sure = S.sure ∧ Below B w w' ∧ Stay w w' Q := by
  obtain ⟨L, h, o⟩ := h
  refine (fail_up h hd ok.may (by rw [hr]; simpa using by omega) k hk).mono fun e w' hh => ?_
  obtain ⟨rfl, N, L', d, hA, F, hN⟩ := hh
  rw [hr] at d hA
  exact ⟨rfl, _, ⟨L', d, (o.step F hN).1⟩, ⟨trivial, hA, by simp, by simp, fun _ => rfl⟩, rfl, rfl, rfl, Fr.foot h F, (o.step F hN).2⟩
end
/-! ### what is said behind a saving -/
def Sv.newA (x : Sv) (a : Int) : Int := if x.k then a else x.a
def Sv.newB (x : Sv) (b : Int) : Int := if x.k then b else x.b
def Sv.newI (x : Sv) (i : Int) : Int := if x.k then x.i else i
def Sv.newT (x : Sv) (t : Int) : Int := if x.k then x.t else t
def Sv.newM (x : Sv) (m : Int) : Int := if x.k then x.m else m
def Sv.newS (x : Sv) (s : ByteArray) : ByteArray := if x.k then x.s else s
def Sv.newK (x : Sv) (b : Bool) : Bool := if x.k then true else b
theorem ne1 : nV ≠ nS := by decide +kernel
theorem ne2 : nV ≠ nM := by decide +kernel
theorem ne3 : nS ≠ nN := by decide +kernel
theorem ne4 : nN ≠ nM := by decide +kernel
section
variable {F G : Fm} {a b i t m : Int} {s : ByteArray} {sm : Bool} {x : Sv}
theorem Says.same (h : Says F a b i t m s sm) (h1 : get G nV = get F nV) (h2 : get G nS = get F nS) : Says G a b i t m s sm := ⟨by rw [h1]; exact h.v, by rw [h2]; exact h.x⟩
/-- the new one is there -/
theorem Says.new (h : Says F a b i t m s sm) (hm : x.may = true) (h1 : get G x.file = some x.text) (h2 : ∀ f, f ≠ x.fresh → f ≠ x.file → get G f = get F f) : Says G (x.newA a) (x.newB b) (x.newI i) (x.newT t) (x.newM m) (x.newS s) (x.newK sm) := by
  obtain ⟨k, a', b', i', t', m', s'⟩ := x
  cases k
  · exact ⟨.inr ⟨hm, h1⟩, by
      have := h2 nS ne3 (fun e => ne1 e.symm)
      show (sm = false ∧ get G nS = none ∧ i = 0 ∧ t = 0 ∧ m = 0 ∧ s = ⟨#[]⟩) ∨ (sm = true ∧ snapB i t m s = true ∧ get G nS = _)
      rw [this]; exact h.x⟩
  · exact ⟨by
      have := h2 nV ne2 ne1
      show (get G nV = none ∧ a = 0 ∧ b = -1) ∨ (voteB a b = true ∧ get G nV = _)
      rw [this]; exact h.v, .inr ⟨rfl, hm, h1⟩⟩
theorem Sv.file_ne (x : Sv) : x.file ≠ nN ∧ x.file ≠ nM ∧ x.fresh ≠ nV ∧ x.fresh ≠ nS := by
  unfold Sv.file Sv.fresh
  cases x.k
  · exact ⟨neV, ne2, fun e => neV e.symm, fun e => ne3 e.symm⟩
  · exact ⟨ne3, neS, fun e => ne2 e.symm, fun e => neS e.symm⟩
theorem Says.old (h : Says F a b i t m s sm) (x : Sv) (h1 : get G x.file = get F x.file) (h2 : ∀ f, f ≠ x.fresh → f ≠ x.file → get G f = get F f) : Says G a b i t m s sm := by
  obtain ⟨k, a', b', i', t', m', s'⟩ := x
  cases k
  · exact h.same h1 (h2 nS ne3 (fun e => ne1 e.symm))
  · exact h.same (h2 nV ne2 ne1) h1
end
/-- a disk without a fresh file, behind a saving that no failing power meets -/
theorem full_out {S S' : St} {x : Sv} {n a b i t m : Int} {s : ByteArray} {sm : Bool} (h : Says S.sure a b i t m s sm) (hr : S.row = []) (hd : S.down = false) (ok : Ok S) (h1 : get S.sure nN = none) (h2 : get S.sure nM = none) (ht : S.trip = 0) (o : SvR S x n S') :
    S'.row = [] ∧ S'.down = false ∧ S'.trip = 0 ∧ Ok S' ∧ get S'.sure nN = none ∧ get S'.sure nM = none ∧ ((n = 0 ∧ Says S'.sure (x.newA a) (x.newB b) (x.newI i) (x.newT t) (x.newM m) (x.newS s) (x.newK sm)) ∨ (n = 1 ∧ Says S'.sure a b i t m s sm) ∨ (n = 7 ∧ 0 ≤ S.room ∧ Says S'.sure a b i t m s sm)) := by
  rcases o with ⟨hm, o⟩ | ⟨_, rfl, rfl⟩
  · have fresh : ∀ f, (f = nN ∨ f = nM) → get S.sure f = none → (get S'.sure x.fresh = none) → (∀ g, g ≠ x.fresh → g ≠ x.file → get S'.sure g = get S.sure g) → get S'.sure f = none := fun f hf hg hx hs => by
      by_cases e : f = x.fresh
      · rw [e]; exact hx
      · rw [hs f e (fun e2 => by rcases hf with rfl | rfl; exact x.file_ne.1 e2.symm; exact x.file_ne.2.1 e2.symm)]; exact hg
    rcases o.all with ⟨rfl, d, hf, hb, hs, t0⟩ | ⟨rfl, d, hroom, hb, hs, t0⟩ | ⟨rfl, d, t1, _⟩
    · exact ⟨o.row, d, t0 ht, o.ok, fresh _ (.inl rfl) h1 hb hs, fresh _ (.inr rfl) h2 hb hs, .inl ⟨rfl, h.new hm hf hs⟩⟩
    · exact ⟨o.row, d, t0 ht, o.ok, fresh _ (.inl rfl) h1 hb (fun g hg _ => hs g hg), fresh _ (.inr rfl) h2 hb (fun g hg _ => hs g hg), .inr (.inr ⟨rfl, hroom, h.same (hs _ (fun e => x.file_ne.2.2.1 e.symm)) (hs _ (fun e => x.file_ne.2.2.2 e.symm))⟩)⟩
    · exact absurd ht t1
  · exact ⟨hr, hd, ht, ok, h1, h2, .inr (.inl ⟨rfl, h⟩)⟩
end Go.Proofs.Ythdkflmkcoabaaa
/-
  FOR THE ROWS: a slice of savings, and one of whole numbers, that came in.
-/
namespace Go.Proofs.Ythdkflmkcoabaaa
section
open Go.ChangeShapes Go.WideShapes Go.ChangeAt Go.RowKit
theorem cells3 : Try.prog.cellsOf 3 = 1 := by kernel_rfl
set_option maxRecDepth 100000 in
theorem open_ints2 {H : Type} {enc : TypeId × Value → H} {W : World} {base : Nat} {v : Value} {d : DataW H} {p : List MemPlace} (hv : Value.okWide Try.prog W .any base 59 v) (h : DataW.Trod enc Try.prog W 0 (fun _ => true) true 59 v d p) :
    ∃ (a : Option Addr) (xs : List Int) (c : Nat), v = .slice a xs.length c ∧ Ints W a xs ∧ xs.length ≤ 9223372036854775807 ∧ (∀ x ∈ xs, (Lit.int .i64 x).wf = true) := by
  obtain ⟨a0, len, cap, rfl⟩ := okWide_slice Try.underlying59 hv
  obtain ⟨fuel, hf⟩ := h
  rcases open_ints Try.underlying59 Try.underlying3 cells3 hf with ⟨hcs, hx⟩ | ⟨a, len', cap', zs, hcs, _, hl, hm, hz, hx, hcell, hw⟩
  · simp [Value.cells] at hcs
    obtain ⟨rfl, rfl, rfl⟩ := hcs
    exact ⟨none, [], 0, rfl, fun i hi => by simp at hi, by simp, fun x hx => by simp at hx⟩
  · simp [Value.cells] at hcs
    obtain ⟨rfl, rfl, rfl⟩ := hcs
    simp only [if_true] at hz
    have hlen : (zs.take len).length = len := by rw [List.length_take]; omega
    refine ⟨some a, zs.take len, cap, by rw [hlen], ?_, by rw [hlen]; unfold maxLen at hm; omega, fun x hx => hw x (List.mem_of_mem_take hx)⟩
    intro i hi
    have hc := hcell i (by omega)
    have he : (zs.take len)[i] = zs.getD i 0 := by
      rw [List.getElem_take, List.getD_eq_getElem?_getD, List.getElem?_eq_getElem (by omega)]; rfl
    rw [he]
    obtain ⟨b, o, sp⟩ := a
    cases sp with
    | none =>
      have e1 : (⟨b, o, none⟩ : Addr).add i = ⟨b, o + i, none⟩ := by unfold Addr.add; split <;> simp_all
      rw [e1] at hc
      exact ⟨b, o, rfl, World.block_lt_of_cell? _ _ hc, hc⟩
    | some q =>
      exfalso
      have h00 := hcell 0 (by omega)
      have e0 : (⟨b, o, some q⟩ : Addr).add 0 = ⟨b, o, some q⟩ := by simp [Addr.add]
      rw [e0] at h00
      have h01 : W.cell? ⟨b, o, some q⟩ = none := by
        unfold World.cell?
        split <;> simp
      rw [h01] at h00; simp at h00
end
section
open Go.Joins Go.ChangeShapes Go.WideShapes Go.RowKit Go.Deep
theorem ce52 : Try.prog.cellsOf 52 = 7 := by kernel_rfl
theorem ce4 : Try.prog.cellsOf 4 = 1 := by kernel_rfl
theorem ce9 : Try.prog.cellsOf 9 = 1 := by kernel_rfl
theorem add_at (b o n : Nat) : (⟨b, o, none⟩ : Addr).add n = ⟨b, o + n, none⟩ := by unfold Addr.add; split <;> simp_all
variable {H : Type} {enc : TypeId × Value → H} {W : World} {base : Nat} {v : Value} {d : DataW H} {p : List MemPlace}
set_option maxRecDepth 100000 in
theorem open_sv {n : Nat} {cs : List Value} {x : DataW H × List MemPlace} {spare : Nat → Bool} {held : Bool} (h : DataW.trod enc Try.prog W base spare held n 52 cs = some x) : ∃ y : Sv, cs = [.bool y.k, .int .i64 y.a, .int .i64 y.b, .int .i64 y.i, .int .i64 y.t, .int .i64 y.m, .string y.s] := by
  obtain ⟨ys, n', _, _, hlen, _, hf⟩ := DataW.trod_struct Try.underlying52 h
  rw [ce52] at hlen
  match cs, hlen with
  | [x0, x1, x2, x3, x4, x5, x6], _ =>
    have f0 : DataW.trod enc Try.prog W base spare held n' 4 (([x0, x1, x2, x3, x4, x5, x6].drop 0).take (Try.prog.cellsOf 4)) = ys[0]? := hf 0 _ rfl
    have f1 : DataW.trod enc Try.prog W base spare held n' 23 (([x0, x1, x2, x3, x4, x5, x6].drop 1).take (Try.prog.cellsOf 23)) = ys[1]? := hf 1 _ rfl
    have f2 : DataW.trod enc Try.prog W base spare held n' 25 (([x0, x1, x2, x3, x4, x5, x6].drop 3).take (Try.prog.cellsOf 25)) = ys[2]? := hf 2 _ rfl
    rw [ce4] at f0
    rw [ce23] at f1
    rw [ce25] at f2
    have hys : ys.length = 3 := by assumption
    match ys, hys with
    | [y0, y1, y2], _ =>
      simp only [List.drop_zero, List.take_succ_cons, List.take_zero, List.drop_succ_cons, List.getElem?_cons_zero, List.getElem?_cons_succ] at f0 f1 f2
      obtain ⟨b0, e0, _⟩ := DataW.trod_bool Try.underlying4 f0
      obtain ⟨v0, v1, m1, _, _, g0, g1⟩ := trod_struct2 Try.underlying23 f1
      obtain ⟨s0, s1, s2, s3, m2, _, _, k0, k1, k2, k3⟩ := trod_struct4 Try.underlying25 f2
      simp only [cells3, ce9, List.drop_zero, List.take_succ_cons, List.take_zero, List.drop_succ_cons] at g0 g1 k0 k1 k2 k3
      obtain ⟨a0, h0, _, _⟩ := DataW.trod_int Try.underlying3 g0
      obtain ⟨a1, h1, _, _⟩ := DataW.trod_int Try.underlying3 g1
      obtain ⟨i0, j0, _, _⟩ := DataW.trod_int Try.underlying3 k0
      obtain ⟨i1, j1, _, _⟩ := DataW.trod_int Try.underlying3 k1
      obtain ⟨i2, j2, _, _⟩ := DataW.trod_int Try.underlying3 k2
      obtain ⟨i3, j3, _, _⟩ := DataW.trod_string Try.underlying9 k3
      simp only [List.cons.injEq, and_true] at e0 h0 h1 j0 j1 j2 j3
      subst e0 h0 h1 j0 j1 j2 j3
      exact ⟨⟨b0, a0, a1, i0, i1, i2, i3⟩, rfl⟩
set_option maxRecDepth 100000 in
theorem open_saves (hv : Value.okWide Try.prog W .any base 47 v) (h : DataW.Trod enc Try.prog W 0 (fun _ => true) true 47 v d p) :
    ∃ (a : Option Addr) (L : List Sv) (c : Nat), v = .slice a L.length c ∧ Svs W a L := by
  obtain ⟨a0, len, cap, rfl⟩ := okWide_slice Try.underlying47 hv
  obtain ⟨fuel, hf⟩ := h
  rcases open_slice Try.underlying47 hf with ⟨hcs, _⟩ | ⟨a, len', cap', m, n, D, Pl, hcs, hb, hl, hm, hmm, hx, hi⟩
  · simp [Value.cells] at hcs
    obtain ⟨rfl, rfl, rfl⟩ := hcs
    exact ⟨none, [], 0, rfl, fun i hi => by simp at hi⟩
  · simp [Value.cells] at hcs
    obtain ⟨rfl, rfl, rfl⟩ := hcs
    have hlm : len ≤ m := by rw [hmm]; split <;> omega
    have hall : ∀ i, i < len → ∃ y : Sv, W.cell? ((a.add (i * 7)).add 0) = some (.bool y.k) ∧ W.cell? ((a.add (i * 7)).add 1) = some (.int .i64 y.a) ∧ W.cell? ((a.add (i * 7)).add 2) = some (.int .i64 y.b) ∧ W.cell? ((a.add (i * 7)).add 3) = some (.int .i64 y.i) ∧ W.cell? ((a.add (i * 7)).add 4) = some (.int .i64 y.t) ∧ W.cell? ((a.add (i * 7)).add 5) = some (.int .i64 y.m) ∧ W.cell? ((a.add (i * 7)).add 6) = some (.string y.s) := fun i hi' => by
      obtain ⟨cs', hc, ht⟩ := hi i (by omega)
      rw [ce52] at hc
      obtain ⟨_, hcl, hat⟩ := World.cells?_some hc
      obtain ⟨y, rfl⟩ := open_sv ht
      exact ⟨y, hat 0 (by decide), hat 1 (by decide), hat 2 (by decide), hat 3 (by decide), hat 4 (by decide), hat 5 (by decide), hat 6 (by decide)⟩
    have hsp : 0 < len → a.spot = none := fun h0 => by
      obtain ⟨x, c0, _⟩ := hall 0 h0
      obtain ⟨b, o, s⟩ := a
      cases s with
      | none => rfl
      | some q =>
        exfalso
        have e0 : ((⟨b, o, some q⟩ : Addr).add (0 * 7)).add 0 = ⟨b, o, some q⟩ := by simp [Addr.add]
        rw [e0] at c0
        have h01 : W.cell? ⟨b, o, some q⟩ = none := by
          unfold World.cell?
          split <;> simp
        rw [h01] at c0; simp at c0
    obtain ⟨f, hf⟩ : ∃ f : Nat → Sv, ∀ i, i < len → W.cell? ((a.add (i * 7)).add 0) = some (.bool (f i).k) ∧ W.cell? ((a.add (i * 7)).add 1) = some (.int .i64 (f i).a) ∧ W.cell? ((a.add (i * 7)).add 2) = some (.int .i64 (f i).b) ∧ W.cell? ((a.add (i * 7)).add 3) = some (.int .i64 (f i).i) ∧ W.cell? ((a.add (i * 7)).add 4) = some (.int .i64 (f i).t) ∧ W.cell? ((a.add (i * 7)).add 5) = some (.int .i64 (f i).m) ∧ W.cell? ((a.add (i * 7)).add 6) = some (.string (f i).s) :=
      ⟨fun i => if h : i < len then Classical.choose (hall i h) else ⟨false, 0, 0, 0, 0, 0, ⟨#[]⟩⟩, fun i h => by
        simp only [dif_pos h]
        exact Classical.choose_spec (hall i h)⟩
    have e1 : ((List.range len).map f).length = len := by rw [List.length_map, List.length_range]
    refine ⟨some a, (List.range len).map f, cap, by rw [e1], ?_⟩
    intro i hi'
    have hil : i < len := by rw [e1] at hi'; exact hi'
    have hs := hf i hil
    have eg : ((List.range len).map f)[i] = f i := by rw [List.getElem_map, List.getElem_range]
    rw [eg]
    have hsn := hsp (by omega)
    clear hf hall hsp hi hmm
    obtain ⟨b, o, s⟩ := a
    simp only at hsn
    subst hsn
    simp only [add_at, Nat.add_zero] at hs
    exact ⟨b, o, rfl, World.block_lt_of_cell? _ _ hs.1, hs⟩
end
end Go.Proofs.Ythdkflmkcoabaaa
/-
  FOR THE LAWS OF SAVINGS: the disk, what it says, and the law's own boxes.
-/
namespace Go.Proofs.Ythdkflmkcoabaaa
open Go.RowKit
section
variable {w w' : World} {B D m : Nat} {S : St} {Q Q' : Nat → Prop}
theorem DskQ.weak (h : DskQ w B D m S Q) (hQ : ∀ q, Q' q → Q q) : DskQ w B D m S Q' := by
  obtain ⟨L, h, o⟩ := h
  exact ⟨L, h, fun q hq => o q (hQ q hq)⟩
theorem DskQ.set (h : DskQ w B D m S Q) {q : Nat} (hq : Q q) (i : Nat) (u : Value) : DskQ (w.setCell ⟨q, i, none⟩ u) B D m S Q := by
  obtain ⟨L, h, o⟩ := h
  exact ⟨L, h.fr (fr_set w q i u) (fun p hp e => (o q hq).2 (by rw [e] at hp; exact hp)), fun p hp => ⟨Nat.lt_of_lt_of_le (o p hp).1 (fr_set w q i u).size, (o p hp).2⟩⟩
theorem Blk.stay {q : Nat} {t : TypeId} {cs : Array Value} (h : Blk w q t cs) (s : Stay w w' Q) (hq : Q q) : Blk w' q t cs := (s q hq).trans h
theorem usedS (_h : DskQ w B D m S Q) : ∃ n : Nat, ∀ W Q', DskQ W B D m S Q' → Calls Try.prog 28 #[.pointer (some ⟨D, 0, none⟩)] W fun e w' => e = .returned (.int .i64 (n : Int)) ∧ W = w' := by
  refine ⟨if S.down then 0 else sz S.now, fun W Q' hW => ?_⟩
  obtain ⟨L, hd, o⟩ := hW
  refine (used_any hd).mono fun e w' ⟨he, hw⟩ => ⟨?_, hw⟩
  rw [he]; cases S.down <;> rfl
theorem loads_true {mm : Nat} {F : Fm} {a b i t m : Int} {s : ByteArray} {sm : Bool} (d : Dsk w B D mm S) (hd : S.down = false) (hA : Alike S.now F) (h : Says F a b i t m s sm) :
    Calls Try.prog 25 #[.pointer (some ⟨D, 0, none⟩), voteV a b, snapV i t m s, .bool sm] w fun e w' => e = .returned (.bool true) ∧ Below w.heap.size w w' :=
  (loads_any d hd hA h).mono fun e w' ⟨he, hb⟩ => ⟨by rw [he]; simp, hb⟩
end
theorem Ok.alike {S : St} (ok : Ok S) (hr : S.row = []) : Alike S.now S.sure := by
  have := ok.now
  rw [hr] at this
  exact this
def vC (a b : Int) : Array Value := #[.int .i64 a, .int .i64 b]
def sC (i t m : Int) (s : ByteArray) : Array Value := #[.int .i64 i, .int .i64 t, .int .i64 m, .string s]
/-- at the head of a round: V the vote's box, X the snapshot's -/
structure Fi (w W : World) (B D V X : Nat) (a b i t m : Int) (s : ByteArray) (sm : Bool) (k : Nat) : Prop where
  d : ∃ S mm, DskQ W B D mm S (fun q => q = V ∨ q = X) ∧ Ok S ∧ S.down = false ∧ S.row = [] ∧ S.trip = 0 ∧ mm ≤ 100 * (k + 1) ∧ Says S.sure a b i t m s sm ∧ get S.sure nN = none ∧ get S.sure nM = none
  v : Blk W V 23 (vC a b)
  x : Blk W X 25 (sC i t m s)
  b : Below B w W
theorem Fi.more {w W W' : World} {B D V X : Nat} {a b i t m : Int} {s : ByteArray} {sm : Bool} {k : Nat} (h : Fi w W B D V X a b i t m s sm k) (hb : Below W.heap.size W W') : Fi w W' B D V X a b i t m s sm (k + 1) := by
  obtain ⟨S, mm, d, h1, h2, h3, h4, h5, h6⟩ := h.d
  exact ⟨⟨S, mm, (d.below hb).1, h1, h2, h3, h4, by omega, h6⟩, h.v.below hb h.v.lt, h.x.below hb h.x.lt, h.b.trans (hb.mono d.base)⟩
/-- in a round: T the saving's box -/
structure Ro (w W : World) (B D V X T mm : Nat) (S : St) (y : Sv) (a b i t m : Int) (s : ByteArray) : Prop where
  d : DskQ W B D mm S (fun q => (q = V ∨ q = X) ∨ q = T)
  v : Blk W V 23 (vC a b)
  x : Blk W X 25 (sC i t m s)
  t : Blk W T 52 y.cells
  b : Below B w W
section
variable {w W W' : World} {B D V X T mm m2 : Nat} {S S' : St} {y : Sv} {a b i t m : Int} {s : ByteArray}
theorem Ro.start (d : DskQ W B D mm S (fun q => q = V ∨ q = X)) (v : Blk W V 23 (vC a b)) (x : Blk W X 25 (sC i t m s)) (hb : Below B w W) : Ro w (W.alloc (.cells y.cells 52)) B D V X W.heap.size mm S y a b i t m s := by
  have bA := (Below.refl _ W).alloc (Nat.le_refl _) (.cells y.cells 52)
  exact ⟨d.more _, v.below bA v.lt, x.below bA x.lt, Blk.new W 52 _, hb.trans (bA.mono d.base)⟩
theorem Ro.next (h : Ro w W B D V X T mm S y a b i t m s) (d : DskQ W' B D m2 S' (fun q => (q = V ∨ q = X) ∨ q = T)) (hb : Below B W W') (st : Stay W W' (fun q => (q = V ∨ q = X) ∨ q = T)) : Ro w W' B D V X T m2 S' y a b i t m s :=
  ⟨d, h.v.stay st (.inl (.inl rfl)), h.x.stay st (.inl (.inr rfl)), h.t.stay st (.inr rfl), h.b.trans hb⟩
theorem Ro.below (h : Ro w W B D V X T mm S y a b i t m s) (hb : Below W.heap.size W W') : Ro w W' B D V X T mm S y a b i t m s :=
  h.next (h.d.below hb).1 (hb.mono h.d.base) (h.d.below hb).2
theorem Ro.setV (h : Ro w W B D V X T mm S y a b i t m s) (hVX : V ≠ X) (hVT : V ≠ T) (hB : B ≤ V) (a' b' : Int) : Ro w ((W.setCell ⟨V, 0, none⟩ (.int .i64 a')).setCell ⟨V, 1, none⟩ (.int .i64 b')) B D V X T mm S y a' b' i t m s :=
  ⟨(h.d.set (.inl (.inl rfl)) 0 _).set (.inl (.inl rfl)) 1 _, (h.v.set 0 _).set 1 _, (h.x.fr (fr_set W V 0 _) (fun e => hVX e.symm)).fr (fr_set _ V 1 _) (fun e => hVX e.symm), (h.t.fr (fr_set W V 0 _) (fun e => hVT e.symm)).fr (fr_set _ V 1 _) (fun e => hVT e.symm), (h.b.setCell (p := ⟨V, 0, none⟩) hB _).setCell (p := ⟨V, 1, none⟩) hB _⟩
theorem Ro.setX (h : Ro w W B D V X T mm S y a b i t m s) (hVX : V ≠ X) (hXT : X ≠ T) (hB : B ≤ X) (i' t' m' : Int) (s' : ByteArray) : Ro w (set4 W X (.int .i64 i') (.int .i64 t') (.int .i64 m') (.string s')) B D V X T mm S y a b i' t' m' s' := by
  have F := (set4_all (.int .i64 i') (.int .i64 t') (.int .i64 m') (.string s') h.x).2
  refine ⟨?_, h.v.fr F hVX, (set4_all _ _ _ _ h.x).1, h.t.fr F (fun e => hXT e.symm), ?_⟩
  · exact (((h.d.set (.inl (.inr rfl)) 0 _).set (.inl (.inr rfl)) 1 _).set (.inl (.inr rfl)) 2 _).set (.inl (.inr rfl)) 3 _
  · exact (((h.b.setCell (p := ⟨X, 0, none⟩) hB _).setCell (p := ⟨X, 1, none⟩) hB _).setCell (p := ⟨X, 2, none⟩) hB _).setCell (p := ⟨X, 3, none⟩) hB _
theorem Ro.fi {sm : Bool} {k : Nat} (h : Ro w W B D V X T mm S y a b i t m s) (ok : Ok S) (hd : S.down = false) (hr : S.row = []) (ht : S.trip = 0) (hm : mm ≤ 100 * (k + 1)) (hs : Says S.sure a b i t m s sm) (h1 : get S.sure nN = none) (h2 : get S.sure nM = none) : Fi w W B D V X a b i t m s sm k :=
  ⟨⟨S, mm, h.d.weak (fun _ hq => .inl hq), ok, hd, hr, ht, hm, hs, h1, h2⟩, h.v, h.x, h.b⟩
end
end Go.Proofs.Ythdkflmkcoabaaa
/-
  THE LAW ShelfFull AS A WALK.
-/
namespace Go.Proofs.Ythdkflmkcoabaaa
open Go.RowKit
set_option maxHeartbeats 16000000 in
set_option maxRecDepth 100000 in
theorem full_law (a : Option Addr) (c : Nat) (L : List Sv) (ra : Option Addr) (rc : Nat) (R : List Int) (w : World) (hx : Svs w a L) (hy : Ints w ra R) :
    Calls Try.prog 7 #[.slice a L.length c, .slice ra R.length rc] w fun e w' => e = .returned (.bool true) ∧ Below w.heap.size w w' := by
  have HX := Lib.hid hx
  have HY := Lib.hid hy
  have NW := Lib.hid (newd w)
  clear hx hy
  generalize hn : L.length = n at *
  generalize hrn : R.length = rn at *
  have HN := Lib.hid hn
  have HRN := Lib.hid hrn
  clear hn hrn
  go_enter Try.func7, Try.ntmps7
  go_wp2_with fail
  refine NW.out.mono ?_
  rintro e w1 ⟨D, rfl, d1, b1⟩
  have S1 : Hid (Fi w ((w1.alloc (.cells #[.int .i64 0, .int .i64 (-1)] 23)).alloc (.cells #[.int .i64 0, .int .i64 0, .int .i64 0, .string ⟨#[]⟩] 25)) w.heap.size D w1.heap.size (w1.heap.size + 1) 0 (-1) 0 0 0 ⟨#[]⟩ false 0 ∧ w.heap.size ≤ w1.heap.size) := Lib.hid (by
    obtain ⟨L0, dl⟩ := d1
    have dq : DskQ w1 w.heap.size D 0 st0 (fun _ => False) := ⟨L0, dl, fun q hq => hq.elim⟩
    have p := Pv.start w1 #[.int .i64 0, .int .i64 (-1)] #[.int .i64 0, .int .i64 0, .int .i64 0, .string ⟨#[]⟩]
    have d2 := (dq.more (.cells #[.int .i64 0, .int .i64 (-1)] 23)).more (.cells #[.int .i64 0, .int .i64 0, .int .i64 0, .string ⟨#[]⟩] 25)
    refine ⟨⟨⟨st0, 0, d2.weak (fun q hq => ?_), ok0, rfl, rfl, rfl, by omega, ⟨.inl ⟨rfl, rfl, rfl⟩, .inl ⟨rfl, rfl, rfl, rfl, rfl, rfl⟩⟩, rfl, rfl⟩, p.v, p.x, b1.trans (p.b.mono b1.size)⟩, b1.size⟩
    rcases hq with rfl | rfl
    · exact .inl (.inr rfl)
    · exact .inr (by simp))
  clear d1 b1 NW
  go_wp2_with fail
  refine (awake_any _).mono ?_
  rintro e w2 ⟨rfl, b2⟩
  have S2 : Hid (Fi w w2 w.heap.size D w1.heap.size (w1.heap.size + 1) 0 (-1) 0 0 0 ⟨#[]⟩ false 1 ∧ w.heap.size ≤ w1.heap.size) := Lib.hid ⟨S1.out.1.more b2, S1.out.2⟩
  clear b2 S1
  generalize w1.heap.size = V at *
  go_wp2_with fail
  go_loopw [8, 9] (fun f i wq => ∃ (k : Nat) (va vb xi xt xm : Int) (xs : ByteArray) (sm : Bool), f = .bool sm ∧ i = .int .i64 k ∧ k ≤ 12 ∧ Fi w wq w.heap.size D V (V + 1) va vb xi xt xm xs sm (k + 1)) (fun _ i _ => n + 12 - (intOf i).toNat)
  case atStart => exact ⟨0, _, _, _, _, _, _, _, rfl, rfl, by omega, S2.out.1⟩
  case round =>
    obtain ⟨k, va, vb, xi, xt, xm, xs, sm, rfl, rfl, hk12, hF⟩ := hrel
    have HF := Lib.hid hF
    have hV := S2.out.2
    clear hF S2
    by_cases hk2 : k < n
    rotate_left
    · have hkn : ¬ (k : Int) < n := by omega
      go_wp2_with fail
      go_ret
      exact ⟨rfl, HF.out.b⟩
    by_cases hk3 : k < 12
    rotate_left
    · have hkn : (k : Int) < n := by omega
      have hkm : ¬ (k : Int) < 12 := by omega
      go_wp2_with fail
      go_ret
      exact ⟨rfl, HF.out.b⟩
    have hkn : (k : Int) < n := by omega
    have hkm : (k : Int) < 12 := by omega
    have hkL : k < L.length := by rw [HN.out]; exact hk2
    obtain ⟨g, o, ha, hg, c0, c1, c2, c3, c4, c5, c6⟩ := HX.out.below HF.out.b k hkL
    generalize L[k] = y at *
    by_cases h3 : y.s.size ≤ 3000
    rotate_left
    · have h3' : (3000 : Int) < (y.s.size : Int) := by omega
      have FM := Lib.hid (HF.out.more ((Below.refl _ wr).alloc (Nat.le_refl _) (.cells y.cells 52)))
      obtain ⟨yk, ya, yb, yi, yt, ym, ys⟩ := y
      unfold Sv.cells at FM
      simp only at c0 c1 c2 c3 c4 c5 c6 h3' FM
      subst ha
      clear h3 hg hkL
      go_wp2_with fail
      go_roundw
      case rel => exact ⟨k + 1, _, _, _, _, _, _, _, rfl, by go_num, by omega, FM.out⟩
      case measure => simp [intOf]; omega
    have h3' : ¬ (3000 : Int) < (y.s.size : Int) := by omega
    obtain ⟨S, mm, d, ok, hd, hr, ht, hm, hs, hf1, hf2⟩ := HF.out.d
    have hdL := d
    obtain ⟨Lx, dlx, ofx⟩ := hdL
    have hVX : V ≠ V + 1 := by omega
    have hT : V + 1 < wr.heap.size := HF.out.x.lt
    have R0 := Ro.start (y := y) d HF.out.v HF.out.x HF.out.b
    have RM := Lib.hid (roomq (-1) R0.d ok)
    have SVC := Lib.hid (fun W m2 r (d : DskQ W w.heap.size D m2 { S with room := r } (fun q => (q = V ∨ q = V + 1) ∨ q = wr.heap.size)) (ok : Ok { S with room := r }) (hm : m2 < 90000) => save_sv y d ok hd hr hm d.base)
    have OUT := Lib.hid (fun r (ok : Ok { S with room := r }) S' n (o : SvR { S with room := r } y n S') => full_out (S := { S with room := r }) hs hr hd ok hf1 hf2 ht o)
    have R0h := Lib.hid R0
    have HS := Lib.hid hs
    have HT := Lib.hid hT
    have HMM := Lib.hid hm
    have HVV := Lib.hid hV
    obtain ⟨yk, ya, yb, yi, yt, ym, ys⟩ := y
    unfold Sv.cells at *
    simp only at c0 c1 c2 c3 c4 c5 c6 h3' RM SVC OUT R0h
    subst ha
    clear d ok hd hr ht hm hs hf1 hf2 R0 h3 hg hkL dlx ofx HF hV hVX hT
    go_wp2_with fail
    refine RM.out.mono ?_
    rintro e w4 ⟨rfl, d4, k4, b4, s4⟩
    have R4 := Lib.hid (R0h.out.next d4 b4 s4)
    have K4 := Lib.hid k4
    clear d4 k4 b4 s4 RM R0h c0 c1 c2 c3 c4 c5 c6
    generalize wr.heap.size = T at *
    by_cases hkr : k < rn
    · have hkr' : (k : Int) < rn := by omega
      have hkR : k < R.length := by rw [HRN.out]; exact hkr
      obtain ⟨rg, ro, hra, hrg, rc00⟩ := HY.out k hkR
      have rc0 : w4.cell? ⟨rg, ro + k, none⟩ = some (.int .i64 (R[k]'hkR)) := by rw [R4.out.b.cell (p := ⟨rg, _, none⟩) hrg]; exact rc00
      clear rc00
      generalize R[k]'hkR = rv at *
      clear hkR
      subst hra
      obtain ⟨un, US⟩ := usedS R4.out.d
      have US := Lib.hid US
      have R4d := Lib.hid (R4.out.below (Below.refl _ _).drew)
      have RM2 := Lib.hid (fun W n (d : DskQ W w.heap.size D mm { S with room := -1 } (fun q => (q = V ∨ q = V + 1) ∨ q = T)) => roomq n d K4.out)
      have rc1 : w4.drew.cell? ⟨rg, ro + k, none⟩ = some (.int .i64 rv) := rc0
      clear rc0
      go_wp2_with fail
      go_region_held3 (fun w' => w'.cell? ⟨rg, ro + k, none⟩ = some (.int .i64 rv))
        (first | assumption)
        (first
          | (go_at_call 28; refine (US.out _ _ R4d.out.d).mono ?_; rintro e w5 ⟨rfl, rfl⟩)
          | (go_at_call 27; refine (RM2.out _ _ R4d.out.d).mono ?_; rintro e w5 ⟨rfl, d5, k5, b5, s5⟩; have rc2 : w5.cell? ⟨rg, ro + k, none⟩ = some (.int .i64 rv) := (by rw [b5.cell (p := ⟨rg, _, none⟩) hrg]; exact rc1); have R5 := Lib.hid (R4d.out.next d5 b5 s5); have K5 := Lib.hid k5; clear d5 k5 b5 s5))
      clear rc2 US RM2 R4d
      have u0 : w5.cell? ⟨T, 0, none⟩ = some (.bool yk) := R5.out.t.cell 0
      have u1 : w5.cell? ⟨T, 1, none⟩ = some (.int .i64 ya) := R5.out.t.cell 1
      have u2 : w5.cell? ⟨T, 2, none⟩ = some (.int .i64 yb) := R5.out.t.cell 2
      have u3 : w5.cell? ⟨T, 3, none⟩ = some (.int .i64 yi) := R5.out.t.cell 3
      have u4 : w5.cell? ⟨T, 4, none⟩ = some (.int .i64 yt) := R5.out.t.cell 4
      have u5 : w5.cell? ⟨T, 5, none⟩ = some (.int .i64 ym) := R5.out.t.cell 5
      have u6 : w5.cell? ⟨T, 6, none⟩ = some (.string ys) := R5.out.t.cell 6
      go_wp2_with fail
      refine (SVC.out _ _ _ R5.out.d K5.out (by have := HMM.out; omega)).mono ?_
      rintro e w6 ⟨S6, n6, rfl, d6, o6, b6, s6⟩
      obtain ⟨row6, dn6, tr6, ok6, f61, f62, hh⟩ := OUT.out _ K5.out S6 n6 o6
      have R6 := Lib.hid (R5.out.next d6 b6 s6)
      have WT := Lib.hid (fun W (d : DskQ W w.heap.size D (mm + 40) S6 (fun q => (q = V ∨ q = V + 1) ∨ q = T)) => waitsq d row6)
      clear d6 b6 s6 o6 SVC OUT R5 u0 u1 u2 u3 u4 u5 u6
      rcases hh with ⟨rfl, h6⟩ | ⟨rfl, h6⟩ | ⟨rfl, hroom, h6⟩
      · cases yk
        · simp only [Sv.newA, Sv.newB, Sv.newI, Sv.newT, Sv.newM, Sv.newS, Sv.newK, if_false, Bool.false_eq_true] at h6
          have hA6 := ok6.alike row6
          have RN := Lib.hid (fun W (d : DskQ W w.heap.size D (mm + 40) S6 (fun q => (q = V ∨ q = V + 1) ∨ q = T)) => show Calls Try.prog 30 #[.pointer (some ⟨D, 0, none⟩), .string ⟨#[118, 111, 116, 101, 46, 110, 101, 119]⟩] W _ from readq d dn6 hA6 nameN f61)
          have RX := Lib.hid (fun W (d : DskQ W w.heap.size D (mm + 40) S6 (fun q => (q = V ∨ q = V + 1) ∨ q = T)) => show Calls Try.prog 30 #[.pointer (some ⟨D, 0, none⟩), .string ⟨#[115, 110, 97, 112, 46, 110, 101, 119]⟩] W _ from readq d dn6 hA6 nameM f62)
          have LO := Lib.hid (fun W (d : DskQ W w.heap.size D (mm + 40) S6 (fun q => (q = V ∨ q = V + 1) ∨ q = T)) => show Calls Try.prog 25 #[.pointer (some ⟨D, 0, none⟩), .agg #[.int .i64 ya, .int .i64 yb], .agg #[.int .i64 xi, .int .i64 xt, .int .i64 xm, .string xs], .bool sm] W (fun e w' => e = .returned (.bool true) ∧ Below W.heap.size W w') from loads_true d.dsk dn6 hA6 h6)
          have FI := Lib.hid (fun W (R : Ro w W w.heap.size D V (V + 1) T (mm + 40) S6 ⟨false, ya, yb, yi, yt, ym, ys⟩ ya yb xi xt xm xs) => R.fi (sm := sm) (k := k + 1 + 1) ok6 dn6 row6 tr6 (by have := HMM.out; omega) h6 f61 f62)
          have R7 := Lib.hid (R6.out.setV (by omega) (by have := HT.out; omega) HVV.out ya yb)
          clear hA6 h6 ok6 row6 dn6 tr6 f61 f62
          have u0 : w6.cell? ⟨T, 0, none⟩ = some (.bool false) := R6.out.t.cell 0
          have u1 : w6.cell? ⟨T, 1, none⟩ = some (.int .i64 ya) := R6.out.t.cell 1
          have u2 : w6.cell? ⟨T, 2, none⟩ = some (.int .i64 yb) := R6.out.t.cell 2
          have u3 : w6.cell? ⟨T, 3, none⟩ = some (.int .i64 yi) := R6.out.t.cell 3
          have u4 : w6.cell? ⟨T, 4, none⟩ = some (.int .i64 yt) := R6.out.t.cell 4
          have u5 : w6.cell? ⟨T, 5, none⟩ = some (.int .i64 ym) := R6.out.t.cell 5
          have u6 : w6.cell? ⟨T, 6, none⟩ = some (.string ys) := R6.out.t.cell 6
          have p0 : w6.cell? ⟨V, 0, none⟩ = some (.int .i64 va) := R6.out.v.cell 0
          have z0 : w6.frozen? ⟨V, 0, none⟩ = false := R6.out.v.free 0
          have p1 : w6.cell? ⟨V, 1, none⟩ = some (.int .i64 vb) := R6.out.v.cell 1
          have z1 : w6.frozen? ⟨V, 1, none⟩ = false := R6.out.v.free 1
          go_wp2_with fail
          refine (WT.out _ R6.out.d).mono ?_
          rintro e w7 ⟨rfl, rfl⟩
          go_wp2_with fail
          clear u0 u1 u2 u3 u4 u5 u6 p0 p1 z0 z1 R6 WT
          generalize (w6.setCell ⟨V, 0, none⟩ (.int .i64 ya)).setCell ⟨V, 1, none⟩ (.int .i64 yb) = w9 at *
          refine (RN.out _ R7.out.d).mono ?_
          rintro e w7 ⟨rfl, rfl⟩
          go_wp2_with fail
          refine (RX.out _ R7.out.d).mono ?_
          rintro e w7 ⟨rfl, rfl⟩
          have p0 : w9.cell? ⟨V, 0, none⟩ = some (.int .i64 ya) := R7.out.v.cell 0
          have p1 : w9.cell? ⟨V, 1, none⟩ = some (.int .i64 yb) := R7.out.v.cell 1
          have q0 : w9.cell? ⟨V + 1, 0, none⟩ = some (.int .i64 xi) := R7.out.x.cell 0
          have q1 : w9.cell? ⟨V + 1, 1, none⟩ = some (.int .i64 xt) := R7.out.x.cell 1
          have q2 : w9.cell? ⟨V + 1, 2, none⟩ = some (.int .i64 xm) := R7.out.x.cell 2
          have q3 : w9.cell? ⟨V + 1, 3, none⟩ = some (.string xs) := R7.out.x.cell 3
          go_wp2_with fail
          refine (LO.out _ R7.out.d).mono ?_
          rintro e w8 ⟨rfl, b8⟩
          have FIN := Lib.hid (FI.out _ (R7.out.below b8))
          clear b8 p0 p1 q0 q1 q2 q3
          go_wp2_with fail
          go_roundw
          case rel => exact ⟨k + 1, _, _, _, _, _, _, _, rfl, by go_num, by omega, FIN.out⟩
          case measure => simp [intOf]; omega
        · simp only [Sv.newA, Sv.newB, Sv.newI, Sv.newT, Sv.newM, Sv.newS, Sv.newK, if_true] at h6
          have hA6 := ok6.alike row6
          have RN := Lib.hid (fun W (d : DskQ W w.heap.size D (mm + 40) S6 (fun q => (q = V ∨ q = V + 1) ∨ q = T)) => show Calls Try.prog 30 #[.pointer (some ⟨D, 0, none⟩), .string ⟨#[118, 111, 116, 101, 46, 110, 101, 119]⟩] W _ from readq d dn6 hA6 nameN f61)
          have RX := Lib.hid (fun W (d : DskQ W w.heap.size D (mm + 40) S6 (fun q => (q = V ∨ q = V + 1) ∨ q = T)) => show Calls Try.prog 30 #[.pointer (some ⟨D, 0, none⟩), .string ⟨#[115, 110, 97, 112, 46, 110, 101, 119]⟩] W _ from readq d dn6 hA6 nameM f62)
          have LO := Lib.hid (fun W (d : DskQ W w.heap.size D (mm + 40) S6 (fun q => (q = V ∨ q = V + 1) ∨ q = T)) => show Calls Try.prog 25 #[.pointer (some ⟨D, 0, none⟩), .agg #[.int .i64 va, .int .i64 vb], .agg #[.int .i64 yi, .int .i64 yt, .int .i64 ym, .string ys], .bool true] W (fun e w' => e = .returned (.bool true) ∧ Below W.heap.size W w') from loads_true d.dsk dn6 hA6 h6)
          have FI := Lib.hid (fun W (R : Ro w W w.heap.size D V (V + 1) T (mm + 40) S6 ⟨true, ya, yb, yi, yt, ym, ys⟩ va vb yi yt ym ys) => R.fi (sm := true) (k := k + 1 + 1) ok6 dn6 row6 tr6 (by have := HMM.out; omega) h6 f61 f62)
          have R7 := R6.out.setX (by omega) (by have := HT.out; omega) (by have := HVV.out; omega) yi yt ym ys
          unfold set4 at R7
          have R7 := Lib.hid R7
          clear hA6 h6 ok6 row6 dn6 tr6 f61 f62
          have u0 : w6.cell? ⟨T, 0, none⟩ = some (.bool true) := R6.out.t.cell 0
          have u1 : w6.cell? ⟨T, 1, none⟩ = some (.int .i64 ya) := R6.out.t.cell 1
          have u2 : w6.cell? ⟨T, 2, none⟩ = some (.int .i64 yb) := R6.out.t.cell 2
          have u3 : w6.cell? ⟨T, 3, none⟩ = some (.int .i64 yi) := R6.out.t.cell 3
          have u4 : w6.cell? ⟨T, 4, none⟩ = some (.int .i64 yt) := R6.out.t.cell 4
          have u5 : w6.cell? ⟨T, 5, none⟩ = some (.int .i64 ym) := R6.out.t.cell 5
          have u6 : w6.cell? ⟨T, 6, none⟩ = some (.string ys) := R6.out.t.cell 6
          have p0 : w6.cell? ⟨V + 1, 0, none⟩ = some (.int .i64 xi) := R6.out.x.cell 0
          have z0 : w6.frozen? ⟨V + 1, 0, none⟩ = false := R6.out.x.free 0
          have p1 : w6.cell? ⟨V + 1, 1, none⟩ = some (.int .i64 xt) := R6.out.x.cell 1
          have z1 : w6.frozen? ⟨V + 1, 1, none⟩ = false := R6.out.x.free 1
          have p2 : w6.cell? ⟨V + 1, 2, none⟩ = some (.int .i64 xm) := R6.out.x.cell 2
          have z2 : w6.frozen? ⟨V + 1, 2, none⟩ = false := R6.out.x.free 2
          have p3 : w6.cell? ⟨V + 1, 3, none⟩ = some (.string xs) := R6.out.x.cell 3
          have z3 : w6.frozen? ⟨V + 1, 3, none⟩ = false := R6.out.x.free 3
          go_wp2_with fail
          refine (WT.out _ R6.out.d).mono ?_
          rintro e w7 ⟨rfl, rfl⟩
          have t0 : ((((w6.setCell ⟨V + 1, 0, none⟩ (.int .i64 yi)).setCell ⟨V + 1, 1, none⟩ (.int .i64 yt)).setCell ⟨V + 1, 2, none⟩ (.int .i64 ym)).setCell ⟨V + 1, 3, none⟩ (.string ys)).cell? ⟨T, 0, none⟩ = some (.bool true) := R7.out.t.cell 0
          go_wp2_with fail
          clear t0 u0 u1 u2 u3 u4 u5 u6 p0 p1 p2 p3 z0 z1 z2 z3 R6 WT
          generalize (((w6.setCell ⟨V + 1, 0, none⟩ (.int .i64 yi)).setCell ⟨V + 1, 1, none⟩ (.int .i64 yt)).setCell ⟨V + 1, 2, none⟩ (.int .i64 ym)).setCell ⟨V + 1, 3, none⟩ (.string ys) = w9 at *
          refine (RN.out _ R7.out.d).mono ?_
          rintro e w7 ⟨rfl, rfl⟩
          go_wp2_with fail
          refine (RX.out _ R7.out.d).mono ?_
          rintro e w7 ⟨rfl, rfl⟩
          have p0 : w9.cell? ⟨V, 0, none⟩ = some (.int .i64 va) := R7.out.v.cell 0
          have p1 : w9.cell? ⟨V, 1, none⟩ = some (.int .i64 vb) := R7.out.v.cell 1
          have q0 : w9.cell? ⟨V + 1, 0, none⟩ = some (.int .i64 yi) := R7.out.x.cell 0
          have q1 : w9.cell? ⟨V + 1, 1, none⟩ = some (.int .i64 yt) := R7.out.x.cell 1
          have q2 : w9.cell? ⟨V + 1, 2, none⟩ = some (.int .i64 ym) := R7.out.x.cell 2
          have q3 : w9.cell? ⟨V + 1, 3, none⟩ = some (.string ys) := R7.out.x.cell 3
          go_wp2_with fail
          refine (LO.out _ R7.out.d).mono ?_
          rintro e w8 ⟨rfl, b8⟩
          have FIN := Lib.hid (FI.out _ (R7.out.below b8))
          clear b8 p0 p1 q0 q1 q2 q3
          go_wp2_with fail
          go_roundw
          case rel => exact ⟨k + 1, _, _, _, _, _, _, _, rfl, by go_num, by omega, FIN.out⟩
          case measure => simp [intOf]; omega
      · skip
        have hA6 := ok6.alike row6
        have RN := Lib.hid (fun W (d : DskQ W w.heap.size D (mm + 40) S6 (fun q => (q = V ∨ q = V + 1) ∨ q = T)) => show Calls Try.prog 30 #[.pointer (some ⟨D, 0, none⟩), .string ⟨#[118, 111, 116, 101, 46, 110, 101, 119]⟩] W _ from readq d dn6 hA6 nameN f61)
        have RX := Lib.hid (fun W (d : DskQ W w.heap.size D (mm + 40) S6 (fun q => (q = V ∨ q = V + 1) ∨ q = T)) => show Calls Try.prog 30 #[.pointer (some ⟨D, 0, none⟩), .string ⟨#[115, 110, 97, 112, 46, 110, 101, 119]⟩] W _ from readq d dn6 hA6 nameM f62)
        have LO := Lib.hid (fun W (d : DskQ W w.heap.size D (mm + 40) S6 (fun q => (q = V ∨ q = V + 1) ∨ q = T)) => show Calls Try.prog 25 #[.pointer (some ⟨D, 0, none⟩), .agg #[.int .i64 va, .int .i64 vb], .agg #[.int .i64 xi, .int .i64 xt, .int .i64 xm, .string xs], .bool sm] W (fun e w' => e = .returned (.bool true) ∧ Below W.heap.size W w') from loads_true d.dsk dn6 hA6 h6)
        have FI := Lib.hid (fun W (R : Ro w W w.heap.size D V (V + 1) T (mm + 40) S6 ⟨yk, ya, yb, yi, yt, ym, ys⟩ va vb xi xt xm xs) => R.fi (sm := sm) (k := k + 1 + 1) ok6 dn6 row6 tr6 (by have := HMM.out; omega) h6 f61 f62)
        clear hA6 h6 ok6 row6 dn6 tr6 f61 f62
        go_wp2_with fail
        refine (WT.out _ R6.out.d).mono ?_
        rintro e w7 ⟨rfl, rfl⟩
        go_wp2_with fail
        clear WT
        refine (RN.out _ R6.out.d).mono ?_
        rintro e w7 ⟨rfl, rfl⟩
        go_wp2_with fail
        refine (RX.out _ R6.out.d).mono ?_
        rintro e w7 ⟨rfl, rfl⟩
        have p0 : w6.cell? ⟨V, 0, none⟩ = some (.int .i64 va) := R6.out.v.cell 0
        have p1 : w6.cell? ⟨V, 1, none⟩ = some (.int .i64 vb) := R6.out.v.cell 1
        have q0 : w6.cell? ⟨V + 1, 0, none⟩ = some (.int .i64 xi) := R6.out.x.cell 0
        have q1 : w6.cell? ⟨V + 1, 1, none⟩ = some (.int .i64 xt) := R6.out.x.cell 1
        have q2 : w6.cell? ⟨V + 1, 2, none⟩ = some (.int .i64 xm) := R6.out.x.cell 2
        have q3 : w6.cell? ⟨V + 1, 3, none⟩ = some (.string xs) := R6.out.x.cell 3
        go_wp2_with fail
        refine (LO.out _ R6.out.d).mono ?_
        rintro e w8 ⟨rfl, b8⟩
        have FIN := Lib.hid (FI.out _ (R6.out.below b8))
        clear b8 p0 p1 q0 q1 q2 q3
        go_wp2_with fail
        go_roundw
        case rel => exact ⟨k + 1, _, _, _, _, _, _, _, rfl, by go_num, by omega, FIN.out⟩
        case measure => simp [intOf]; omega
      · clear hroom
        have hA6 := ok6.alike row6
        have RN := Lib.hid (fun W (d : DskQ W w.heap.size D (mm + 40) S6 (fun q => (q = V ∨ q = V + 1) ∨ q = T)) => show Calls Try.prog 30 #[.pointer (some ⟨D, 0, none⟩), .string ⟨#[118, 111, 116, 101, 46, 110, 101, 119]⟩] W _ from readq d dn6 hA6 nameN f61)
        have RX := Lib.hid (fun W (d : DskQ W w.heap.size D (mm + 40) S6 (fun q => (q = V ∨ q = V + 1) ∨ q = T)) => show Calls Try.prog 30 #[.pointer (some ⟨D, 0, none⟩), .string ⟨#[115, 110, 97, 112, 46, 110, 101, 119]⟩] W _ from readq d dn6 hA6 nameM f62)
        have LO := Lib.hid (fun W (d : DskQ W w.heap.size D (mm + 40) S6 (fun q => (q = V ∨ q = V + 1) ∨ q = T)) => show Calls Try.prog 25 #[.pointer (some ⟨D, 0, none⟩), .agg #[.int .i64 va, .int .i64 vb], .agg #[.int .i64 xi, .int .i64 xt, .int .i64 xm, .string xs], .bool sm] W (fun e w' => e = .returned (.bool true) ∧ Below W.heap.size W w') from loads_true d.dsk dn6 hA6 h6)
        have FI := Lib.hid (fun W (R : Ro w W w.heap.size D V (V + 1) T (mm + 40) S6 ⟨yk, ya, yb, yi, yt, ym, ys⟩ va vb xi xt xm xs) => R.fi (sm := sm) (k := k + 1 + 1) ok6 dn6 row6 tr6 (by have := HMM.out; omega) h6 f61 f62)
        clear hA6 h6 ok6 row6 dn6 tr6 f61 f62
        go_wp2_with fail
        refine (WT.out _ R6.out.d).mono ?_
        rintro e w7 ⟨rfl, rfl⟩
        go_wp2_with fail
        clear WT
        refine (RN.out _ R6.out.d).mono ?_
        rintro e w7 ⟨rfl, rfl⟩
        go_wp2_with fail
        refine (RX.out _ R6.out.d).mono ?_
        rintro e w7 ⟨rfl, rfl⟩
        have p0 : w6.cell? ⟨V, 0, none⟩ = some (.int .i64 va) := R6.out.v.cell 0
        have p1 : w6.cell? ⟨V, 1, none⟩ = some (.int .i64 vb) := R6.out.v.cell 1
        have q0 : w6.cell? ⟨V + 1, 0, none⟩ = some (.int .i64 xi) := R6.out.x.cell 0
        have q1 : w6.cell? ⟨V + 1, 1, none⟩ = some (.int .i64 xt) := R6.out.x.cell 1
        have q2 : w6.cell? ⟨V + 1, 2, none⟩ = some (.int .i64 xm) := R6.out.x.cell 2
        have q3 : w6.cell? ⟨V + 1, 3, none⟩ = some (.string xs) := R6.out.x.cell 3
        go_wp2_with fail
        refine (LO.out _ R6.out.d).mono ?_
        rintro e w8 ⟨rfl, b8⟩
        have FIN := Lib.hid (FI.out _ (R6.out.below b8))
        clear b8 p0 p1 q0 q1 q2 q3
        go_wp2_with fail
        go_roundw
        case rel => exact ⟨k + 1, _, _, _, _, _, _, _, rfl, by go_num, by omega, FIN.out⟩
        case measure => simp [intOf]; omega
    · have hkr' : ¬ (k : Int) < rn := by omega
      have u0 : w4.cell? ⟨T, 0, none⟩ = some (.bool yk) := R4.out.t.cell 0
      have u1 : w4.cell? ⟨T, 1, none⟩ = some (.int .i64 ya) := R4.out.t.cell 1
      have u2 : w4.cell? ⟨T, 2, none⟩ = some (.int .i64 yb) := R4.out.t.cell 2
      have u3 : w4.cell? ⟨T, 3, none⟩ = some (.int .i64 yi) := R4.out.t.cell 3
      have u4 : w4.cell? ⟨T, 4, none⟩ = some (.int .i64 yt) := R4.out.t.cell 4
      have u5 : w4.cell? ⟨T, 5, none⟩ = some (.int .i64 ym) := R4.out.t.cell 5
      have u6 : w4.cell? ⟨T, 6, none⟩ = some (.string ys) := R4.out.t.cell 6
      go_wp2_with fail
      refine (SVC.out _ _ _ R4.out.d K4.out (by have := HMM.out; omega)).mono ?_
      rintro e w6 ⟨S6, n6, rfl, d6, o6, b6, s6⟩
      obtain ⟨row6, dn6, tr6, ok6, f61, f62, hh⟩ := OUT.out _ K4.out S6 n6 o6
      have R6 := Lib.hid (R4.out.next d6 b6 s6)
      have WT := Lib.hid (fun W (d : DskQ W w.heap.size D (mm + 40) S6 (fun q => (q = V ∨ q = V + 1) ∨ q = T)) => waitsq d row6)
      clear d6 b6 s6 o6 SVC OUT R4 u0 u1 u2 u3 u4 u5 u6
      rcases hh with ⟨rfl, h6⟩ | ⟨rfl, h6⟩ | ⟨rfl, hroom, h6⟩
      · cases yk
        · simp only [Sv.newA, Sv.newB, Sv.newI, Sv.newT, Sv.newM, Sv.newS, Sv.newK, if_false, Bool.false_eq_true] at h6
          have hA6 := ok6.alike row6
          have RN := Lib.hid (fun W (d : DskQ W w.heap.size D (mm + 40) S6 (fun q => (q = V ∨ q = V + 1) ∨ q = T)) => show Calls Try.prog 30 #[.pointer (some ⟨D, 0, none⟩), .string ⟨#[118, 111, 116, 101, 46, 110, 101, 119]⟩] W _ from readq d dn6 hA6 nameN f61)
          have RX := Lib.hid (fun W (d : DskQ W w.heap.size D (mm + 40) S6 (fun q => (q = V ∨ q = V + 1) ∨ q = T)) => show Calls Try.prog 30 #[.pointer (some ⟨D, 0, none⟩), .string ⟨#[115, 110, 97, 112, 46, 110, 101, 119]⟩] W _ from readq d dn6 hA6 nameM f62)
          have LO := Lib.hid (fun W (d : DskQ W w.heap.size D (mm + 40) S6 (fun q => (q = V ∨ q = V + 1) ∨ q = T)) => show Calls Try.prog 25 #[.pointer (some ⟨D, 0, none⟩), .agg #[.int .i64 ya, .int .i64 yb], .agg #[.int .i64 xi, .int .i64 xt, .int .i64 xm, .string xs], .bool sm] W (fun e w' => e = .returned (.bool true) ∧ Below W.heap.size W w') from loads_true d.dsk dn6 hA6 h6)
          have FI := Lib.hid (fun W (R : Ro w W w.heap.size D V (V + 1) T (mm + 40) S6 ⟨false, ya, yb, yi, yt, ym, ys⟩ ya yb xi xt xm xs) => R.fi (sm := sm) (k := k + 1 + 1) ok6 dn6 row6 tr6 (by have := HMM.out; omega) h6 f61 f62)
          have R7 := Lib.hid (R6.out.setV (by omega) (by have := HT.out; omega) HVV.out ya yb)
          clear hA6 h6 ok6 row6 dn6 tr6 f61 f62
          have u0 : w6.cell? ⟨T, 0, none⟩ = some (.bool false) := R6.out.t.cell 0
          have u1 : w6.cell? ⟨T, 1, none⟩ = some (.int .i64 ya) := R6.out.t.cell 1
          have u2 : w6.cell? ⟨T, 2, none⟩ = some (.int .i64 yb) := R6.out.t.cell 2
          have u3 : w6.cell? ⟨T, 3, none⟩ = some (.int .i64 yi) := R6.out.t.cell 3
          have u4 : w6.cell? ⟨T, 4, none⟩ = some (.int .i64 yt) := R6.out.t.cell 4
          have u5 : w6.cell? ⟨T, 5, none⟩ = some (.int .i64 ym) := R6.out.t.cell 5
          have u6 : w6.cell? ⟨T, 6, none⟩ = some (.string ys) := R6.out.t.cell 6
          have p0 : w6.cell? ⟨V, 0, none⟩ = some (.int .i64 va) := R6.out.v.cell 0
          have z0 : w6.frozen? ⟨V, 0, none⟩ = false := R6.out.v.free 0
          have p1 : w6.cell? ⟨V, 1, none⟩ = some (.int .i64 vb) := R6.out.v.cell 1
          have z1 : w6.frozen? ⟨V, 1, none⟩ = false := R6.out.v.free 1
          go_wp2_with fail
          refine (WT.out _ R6.out.d).mono ?_
          rintro e w7 ⟨rfl, rfl⟩
          go_wp2_with fail
          clear u0 u1 u2 u3 u4 u5 u6 p0 p1 z0 z1 R6 WT
          generalize (w6.setCell ⟨V, 0, none⟩ (.int .i64 ya)).setCell ⟨V, 1, none⟩ (.int .i64 yb) = w9 at *
          refine (RN.out _ R7.out.d).mono ?_
          rintro e w7 ⟨rfl, rfl⟩
          go_wp2_with fail
          refine (RX.out _ R7.out.d).mono ?_
          rintro e w7 ⟨rfl, rfl⟩
          have p0 : w9.cell? ⟨V, 0, none⟩ = some (.int .i64 ya) := R7.out.v.cell 0
          have p1 : w9.cell? ⟨V, 1, none⟩ = some (.int .i64 yb) := R7.out.v.cell 1
          have q0 : w9.cell? ⟨V + 1, 0, none⟩ = some (.int .i64 xi) := R7.out.x.cell 0
          have q1 : w9.cell? ⟨V + 1, 1, none⟩ = some (.int .i64 xt) := R7.out.x.cell 1
          have q2 : w9.cell? ⟨V + 1, 2, none⟩ = some (.int .i64 xm) := R7.out.x.cell 2
          have q3 : w9.cell? ⟨V + 1, 3, none⟩ = some (.string xs) := R7.out.x.cell 3
          go_wp2_with fail
          refine (LO.out _ R7.out.d).mono ?_
          rintro e w8 ⟨rfl, b8⟩
          have FIN := Lib.hid (FI.out _ (R7.out.below b8))
          clear b8 p0 p1 q0 q1 q2 q3
          go_wp2_with fail
          go_roundw
          case rel => exact ⟨k + 1, _, _, _, _, _, _, _, rfl, by go_num, by omega, FIN.out⟩
          case measure => simp [intOf]; omega
        · simp only [Sv.newA, Sv.newB, Sv.newI, Sv.newT, Sv.newM, Sv.newS, Sv.newK, if_true] at h6
          have hA6 := ok6.alike row6
          have RN := Lib.hid (fun W (d : DskQ W w.heap.size D (mm + 40) S6 (fun q => (q = V ∨ q = V + 1) ∨ q = T)) => show Calls Try.prog 30 #[.pointer (some ⟨D, 0, none⟩), .string ⟨#[118, 111, 116, 101, 46, 110, 101, 119]⟩] W _ from readq d dn6 hA6 nameN f61)
          have RX := Lib.hid (fun W (d : DskQ W w.heap.size D (mm + 40) S6 (fun q => (q = V ∨ q = V + 1) ∨ q = T)) => show Calls Try.prog 30 #[.pointer (some ⟨D, 0, none⟩), .string ⟨#[115, 110, 97, 112, 46, 110, 101, 119]⟩] W _ from readq d dn6 hA6 nameM f62)
          have LO := Lib.hid (fun W (d : DskQ W w.heap.size D (mm + 40) S6 (fun q => (q = V ∨ q = V + 1) ∨ q = T)) => show Calls Try.prog 25 #[.pointer (some ⟨D, 0, none⟩), .agg #[.int .i64 va, .int .i64 vb], .agg #[.int .i64 yi, .int .i64 yt, .int .i64 ym, .string ys], .bool true] W (fun e w' => e = .returned (.bool true) ∧ Below W.heap.size W w') from loads_true d.dsk dn6 hA6 h6)
          have FI := Lib.hid (fun W (R : Ro w W w.heap.size D V (V + 1) T (mm + 40) S6 ⟨true, ya, yb, yi, yt, ym, ys⟩ va vb yi yt ym ys) => R.fi (sm := true) (k := k + 1 + 1) ok6 dn6 row6 tr6 (by have := HMM.out; omega) h6 f61 f62)
          have R7 := R6.out.setX (by omega) (by have := HT.out; omega) (by have := HVV.out; omega) yi yt ym ys
          unfold set4 at R7
          have R7 := Lib.hid R7
          clear hA6 h6 ok6 row6 dn6 tr6 f61 f62
          have u0 : w6.cell? ⟨T, 0, none⟩ = some (.bool true) := R6.out.t.cell 0
          have u1 : w6.cell? ⟨T, 1, none⟩ = some (.int .i64 ya) := R6.out.t.cell 1
          have u2 : w6.cell? ⟨T, 2, none⟩ = some (.int .i64 yb) := R6.out.t.cell 2
          have u3 : w6.cell? ⟨T, 3, none⟩ = some (.int .i64 yi) := R6.out.t.cell 3
          have u4 : w6.cell? ⟨T, 4, none⟩ = some (.int .i64 yt) := R6.out.t.cell 4
          have u5 : w6.cell? ⟨T, 5, none⟩ = some (.int .i64 ym) := R6.out.t.cell 5
          have u6 : w6.cell? ⟨T, 6, none⟩ = some (.string ys) := R6.out.t.cell 6
          have p0 : w6.cell? ⟨V + 1, 0, none⟩ = some (.int .i64 xi) := R6.out.x.cell 0
          have z0 : w6.frozen? ⟨V + 1, 0, none⟩ = false := R6.out.x.free 0
          have p1 : w6.cell? ⟨V + 1, 1, none⟩ = some (.int .i64 xt) := R6.out.x.cell 1
          have z1 : w6.frozen? ⟨V + 1, 1, none⟩ = false := R6.out.x.free 1
          have p2 : w6.cell? ⟨V + 1, 2, none⟩ = some (.int .i64 xm) := R6.out.x.cell 2
          have z2 : w6.frozen? ⟨V + 1, 2, none⟩ = false := R6.out.x.free 2
          have p3 : w6.cell? ⟨V + 1, 3, none⟩ = some (.string xs) := R6.out.x.cell 3
          have z3 : w6.frozen? ⟨V + 1, 3, none⟩ = false := R6.out.x.free 3
          go_wp2_with fail
          refine (WT.out _ R6.out.d).mono ?_
          rintro e w7 ⟨rfl, rfl⟩
          have t0 : ((((w6.setCell ⟨V + 1, 0, none⟩ (.int .i64 yi)).setCell ⟨V + 1, 1, none⟩ (.int .i64 yt)).setCell ⟨V + 1, 2, none⟩ (.int .i64 ym)).setCell ⟨V + 1, 3, none⟩ (.string ys)).cell? ⟨T, 0, none⟩ = some (.bool true) := R7.out.t.cell 0
          go_wp2_with fail
          clear t0 u0 u1 u2 u3 u4 u5 u6 p0 p1 p2 p3 z0 z1 z2 z3 R6 WT
          generalize (((w6.setCell ⟨V + 1, 0, none⟩ (.int .i64 yi)).setCell ⟨V + 1, 1, none⟩ (.int .i64 yt)).setCell ⟨V + 1, 2, none⟩ (.int .i64 ym)).setCell ⟨V + 1, 3, none⟩ (.string ys) = w9 at *
          refine (RN.out _ R7.out.d).mono ?_
          rintro e w7 ⟨rfl, rfl⟩
          go_wp2_with fail
          refine (RX.out _ R7.out.d).mono ?_
          rintro e w7 ⟨rfl, rfl⟩
          have p0 : w9.cell? ⟨V, 0, none⟩ = some (.int .i64 va) := R7.out.v.cell 0
          have p1 : w9.cell? ⟨V, 1, none⟩ = some (.int .i64 vb) := R7.out.v.cell 1
          have q0 : w9.cell? ⟨V + 1, 0, none⟩ = some (.int .i64 yi) := R7.out.x.cell 0
          have q1 : w9.cell? ⟨V + 1, 1, none⟩ = some (.int .i64 yt) := R7.out.x.cell 1
          have q2 : w9.cell? ⟨V + 1, 2, none⟩ = some (.int .i64 ym) := R7.out.x.cell 2
          have q3 : w9.cell? ⟨V + 1, 3, none⟩ = some (.string ys) := R7.out.x.cell 3
          go_wp2_with fail
          refine (LO.out _ R7.out.d).mono ?_
          rintro e w8 ⟨rfl, b8⟩
          have FIN := Lib.hid (FI.out _ (R7.out.below b8))
          clear b8 p0 p1 q0 q1 q2 q3
          go_wp2_with fail
          go_roundw
          case rel => exact ⟨k + 1, _, _, _, _, _, _, _, rfl, by go_num, by omega, FIN.out⟩
          case measure => simp [intOf]; omega
      · skip
        have hA6 := ok6.alike row6
        have RN := Lib.hid (fun W (d : DskQ W w.heap.size D (mm + 40) S6 (fun q => (q = V ∨ q = V + 1) ∨ q = T)) => show Calls Try.prog 30 #[.pointer (some ⟨D, 0, none⟩), .string ⟨#[118, 111, 116, 101, 46, 110, 101, 119]⟩] W _ from readq d dn6 hA6 nameN f61)
        have RX := Lib.hid (fun W (d : DskQ W w.heap.size D (mm + 40) S6 (fun q => (q = V ∨ q = V + 1) ∨ q = T)) => show Calls Try.prog 30 #[.pointer (some ⟨D, 0, none⟩), .string ⟨#[115, 110, 97, 112, 46, 110, 101, 119]⟩] W _ from readq d dn6 hA6 nameM f62)
        have LO := Lib.hid (fun W (d : DskQ W w.heap.size D (mm + 40) S6 (fun q => (q = V ∨ q = V + 1) ∨ q = T)) => show Calls Try.prog 25 #[.pointer (some ⟨D, 0, none⟩), .agg #[.int .i64 va, .int .i64 vb], .agg #[.int .i64 xi, .int .i64 xt, .int .i64 xm, .string xs], .bool sm] W (fun e w' => e = .returned (.bool true) ∧ Below W.heap.size W w') from loads_true d.dsk dn6 hA6 h6)
        have FI := Lib.hid (fun W (R : Ro w W w.heap.size D V (V + 1) T (mm + 40) S6 ⟨yk, ya, yb, yi, yt, ym, ys⟩ va vb xi xt xm xs) => R.fi (sm := sm) (k := k + 1 + 1) ok6 dn6 row6 tr6 (by have := HMM.out; omega) h6 f61 f62)
        clear hA6 h6 ok6 row6 dn6 tr6 f61 f62
        go_wp2_with fail
        refine (WT.out _ R6.out.d).mono ?_
        rintro e w7 ⟨rfl, rfl⟩
        go_wp2_with fail
        clear WT
        refine (RN.out _ R6.out.d).mono ?_
        rintro e w7 ⟨rfl, rfl⟩
        go_wp2_with fail
        refine (RX.out _ R6.out.d).mono ?_
        rintro e w7 ⟨rfl, rfl⟩
        have p0 : w6.cell? ⟨V, 0, none⟩ = some (.int .i64 va) := R6.out.v.cell 0
        have p1 : w6.cell? ⟨V, 1, none⟩ = some (.int .i64 vb) := R6.out.v.cell 1
        have q0 : w6.cell? ⟨V + 1, 0, none⟩ = some (.int .i64 xi) := R6.out.x.cell 0
        have q1 : w6.cell? ⟨V + 1, 1, none⟩ = some (.int .i64 xt) := R6.out.x.cell 1
        have q2 : w6.cell? ⟨V + 1, 2, none⟩ = some (.int .i64 xm) := R6.out.x.cell 2
        have q3 : w6.cell? ⟨V + 1, 3, none⟩ = some (.string xs) := R6.out.x.cell 3
        go_wp2_with fail
        refine (LO.out _ R6.out.d).mono ?_
        rintro e w8 ⟨rfl, b8⟩
        have FIN := Lib.hid (FI.out _ (R6.out.below b8))
        clear b8 p0 p1 q0 q1 q2 q3
        go_wp2_with fail
        go_roundw
        case rel => exact ⟨k + 1, _, _, _, _, _, _, _, rfl, by go_num, by omega, FIN.out⟩
        case measure => simp [intOf]; omega
      · exfalso; revert hroom; decide
end Go.Proofs.Ythdkflmkcoabaaa
