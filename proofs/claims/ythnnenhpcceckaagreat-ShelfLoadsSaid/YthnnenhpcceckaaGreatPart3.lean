/-
  WHAT THE ROWS REST ON, part 3: Save Trip Copy Fail Count Sync Now Cln BText BTape.
-/
import Derived.Shelf.Abstract
import Derived.Maps.RangeWalk
import Derived.WalkSpells
import Derived.Deep.AppendLies
import Derived.Lib.Strings
import Derived.Lib.UnsafeStr
import Derived.Laws.MakeOwn
import Derived.WalkSmall
import Derived.Test.YthnnenhpcceckaaGreatPart2
/-
  WHAT IS KEPT OF A ROW: save.
-/
namespace Go.Proofs.YthnnenhpcceckaaGreat
open Go.RowKit
theorem meth_cost (c : Chg) (w : World) : Sem.run Tryz.prog (method 296 c.ty c.in_ "auspice/disk.cost") w = .ok (c.fn, c.in_) w := by
  cases c <;> kernel_rfl
theorem enters_cost (c : Chg) (args : Array Value) (w : World) : (callFunc c.fn args).run Tryz.prog w = .ok (.enter c.fn args) w := by
  cases c
  · exact enters_of Tryz.func133 (by kernel_rfl) rfl args w
  · exact enters_of Tryz.func134 (by kernel_rfl) rfl args w
  · exact enters_of Tryz.func135 (by kernel_rfl) rfl args w
  · exact enters_of Tryz.func136 (by kernel_rfl) rfl args w
/-- is it a Put? -/
def Chg.isPut : Chg → Bool
  | .put _ _ _ => true
  | _ => false
theorem assert_put (c : Chg) : ∃ (f : Nm) (a : Int) (s : ByteArray), (∀ w, Sem.run Tryz.prog (Instr.typeAssert (.iface c.ty c.in_) 62 60 true) w = .ok (.tuple #[.agg #[.string f, .int .i64 a, .string s], .bool c.isPut]) w) ∧ (c.isPut = true → ∃ n : Nat, a = n ∧ c = .put f n s) := by
  cases c with
  | put f a s => exact ⟨f, a, s, fun w => ta_60_60 w _, fun _ => ⟨a, rfl, rfl⟩⟩
  | trim f n => exact ⟨⟨#[]⟩, 0, ⟨#[]⟩, fun w => ta_84_60 w _, fun h => by cases h⟩
  | move f t => exact ⟨⟨#[]⟩, 0, ⟨#[]⟩, fun w => ta_86_60 w _, fun h => by cases h⟩
  | drop f => exact ⟨⟨#[]⟩, 0, ⟨#[]⟩, fun w => ta_89_60 w _, fun h => by cases h⟩
theorem doAll_snoc (fs : Fm) (r : List Chg) {j : Nat} (h : j < r.length) : doAll fs (r.take (j + 1)) = r[j].doF (doAll fs (r.take j)) := by
  unfold doAll
  rw [List.take_add_one, List.getElem?_eq_getElem h, List.foldl_append]
  rfl
theorem row_cell {w : World} {B : Nat} {a : Option Addr} {n cap : Nat} {r : List Chg} (h : w.ownsRow B 62 1 (.slice a n cap) n (r.map Chg.val)) {j : Nat} (hj : j < r.length) : ∃ g, a = some ⟨g, 0, none⟩ ∧ w.cell? ⟨g, j, none⟩ = some (.iface r[j].ty r[j].in_) := by
  have hl : r.length = n := by have := h.1; rw [List.length_map] at this; omega
  rcases h.2 with ⟨e, e0⟩ | ⟨g, cap', cur, e, _⟩
  · omega
  · injection e with e1 _ _
    subst e1
    refine ⟨g, rfl, ?_⟩
    rw [World.ownsRow.cellAt h j (by omega), List.getElem?_map, List.getElem?_eq_getElem hj]
    simp [Chg.val_eq]
/-- while a row is kept -/
structure Sav (w wq : World) (B D m : Nat) (S : St) (L : Lie) (j : Nat) (k k' : Int) (V1 : Nm → Value) : Prop where
  d : DkL wq B D (m + j) { S with sure := doAll S.sure (S.row.take j) } { L with V1 := V1 }
  f : Fr w wq (fun q => q = D ∨ Foot L.M1 L.V1 q)
  n : ∀ q, Foot L.M1 V1 q → Foot L.M1 L.V1 q ∨ w.heap.size ≤ q
  eq : keepF S.sure S.row k = keepF (doAll S.sure (S.row.take j)) (S.row.drop j) k'
  pos : 0 ≤ k' ∧ k' ≤ k
def Saved (w : World) (B D m : Nat) (S : St) (L : Lie) (k : Int) (e : Ending) (w' : World) : Prop :=
  e = .returned (.tuple #[]) ∧ ∃ V1, DkL w' B D (m + S.row.length + 1) { S with sure := keepF S.sure S.row k } { L with V1 := V1 } ∧ Fr w w' (fun q => q = D ∨ Foot L.M1 L.V1 q) ∧ ∀ q, Foot L.M1 V1 q → Foot L.M1 L.V1 q ∨ w.heap.size ≤ q
theorem keepF_cons (fs : Fm) (c : Chg) (r : List Chg) (k : Int) : keepF fs (c :: r) k = if k < c.cost then tornF fs c k else keepF (c.doF fs) r (k - c.cost) := rfl
theorem DkL.mono {w : World} {B D m m' : Nat} {S : St} {L : Lie} (h : DkL w B D m S L) (hm : m ≤ m') (hm' : m' ≤ 100000) : DkL w B D m' S L :=
  ⟨h.blk, h.f1.mono hm, h.f2.mono hm, h.row, ⟨h.g1.uniq, Nat.le_trans h.g1.few hm, h.g1.small⟩, ⟨h.g2.uniq, Nat.le_trans h.g2.few hm, h.g2.small⟩, Nat.le_trans h.few hm, h.d1, h.d2, h.d12, h.dv, h.base, ⟨h.calls.1, by have := h.calls.2; omega⟩, h.trip, hm'⟩
theorem Sav.join {w wr w3 w4 : World} {B D m : Nat} {S : St} {L : Lie} {j : Nat} {k k' : Int} {V1 V' : Nm → Value} (h : Sav w wr B D m S L j k k' V1) (hb : Below wr.heap.size wr w3) (F : Fr w3 w4 (fun q => q = D ∨ Foot L.M1 V1 q)) (hN : ∀ q, Foot L.M1 V' q → Foot L.M1 V1 q ∨ w3.heap.size ≤ q) :
    Fr w w4 (fun q => q = D ∨ Foot L.M1 L.V1 q) ∧ ∀ q, Foot L.M1 V' q → Foot L.M1 L.V1 q ∨ w.heap.size ≤ q := by
  have h1 := h.f.size
  have h2 := hb.size
  refine ⟨(h.f.trans (Fr.of_below hb (fun _ => False)) (fun _ _ h => h) (fun _ _ h => h.elim)).trans F (fun _ _ h => h) (fun q hq hh => ?_), fun q hq => ?_⟩
  · rcases hh with e | hh
    · exact .inl e
    · rcases h.n q hh with h' | h'
      · exact .inr h'
      · omega
  · rcases hN q hq with hh | hh
    · exact h.n q hh
    · right; omega
theorem Sav.next {w wr w3 w4 : World} {B D m : Nat} {S : St} {L : Lie} {j : Nat} {k k' : Int} {V1 V' : Nm → Value} {c : Chg} (h : Sav w wr B D m S L j k k' V1) (hs : doAll S.sure (S.row.take (j + 1)) = c.doF (doAll S.sure (S.row.take j))) (hdr : S.row.drop j = c :: S.row.drop (j + 1)) (hge : ¬ k' < c.cost) (hb : Below wr.heap.size wr w3)
    (hd : DkL w4 B D (m + j + 1) { S with sure := c.doF (doAll S.sure (S.row.take j)) } { L with V1 := V' }) (F : Fr w3 w4 (fun q => q = D ∨ Foot L.M1 V1 q)) (hN : ∀ q, Foot L.M1 V' q → Foot L.M1 V1 q ∨ w3.heap.size ≤ q) : Sav w w4 B D m S L (j + 1) k (k' - c.cost) V' := by
  obtain ⟨f4, n4⟩ := h.join hb F hN
  refine ⟨by rw [hs]; exact hd, f4, n4, ?_, by have := cost_pos c; have := h.pos; omega⟩
  rw [h.eq, hdr, hs, keepF_cons, if_neg hge]
theorem Sav.stop {w wr w3 : World} {B D m : Nat} {S : St} {L : Lie} {j : Nat} {k k' : Int} {V1 : Nm → Value} (h : Sav w wr B D m S L j k k' V1) (hj : j ≤ S.row.length) (hm : m + S.row.length < 99999) (he : keepF S.sure S.row k = doAll S.sure (S.row.take j)) (hb : Below wr.heap.size wr w3) : Saved w B D m S L k (.returned (.tuple #[])) w3 := by
  obtain ⟨f4, n4⟩ := h.join hb (Fr.refl w3 _) (fun q hq => .inl hq)
  refine ⟨rfl, V1, ?_, f4, n4⟩
  rw [he]
  exact (h.d.below hb).mono (by omega) (by omega)
theorem Sav.torn {w wr w3 w4 : World} {B D m : Nat} {S : St} {L : Lie} {j : Nat} {k k' : Int} {V1 V' : Nm → Value} {c : Chg} (h : Sav w wr B D m S L j k k' V1) (hj : j < S.row.length) (hm : m + S.row.length < 99999) (he : keepF S.sure S.row k = c.doF (doAll S.sure (S.row.take j))) (hb : Below wr.heap.size wr w3)
    (hd : DkL w4 B D (m + j + 1) { S with sure := c.doF (doAll S.sure (S.row.take j)) } { L with V1 := V' }) (F : Fr w3 w4 (fun q => q = D ∨ Foot L.M1 V1 q)) (hN : ∀ q, Foot L.M1 V' q → Foot L.M1 V1 q ∨ w3.heap.size ≤ q) : Saved w B D m S L k (.returned (.tuple #[])) w4 := by
  obtain ⟨f4, n4⟩ := h.join hb F hN
  refine ⟨rfl, V', ?_, f4, n4⟩
  rw [he]
  exact hd.mono (by omega) (by omega)
set_option maxHeartbeats 8000000 in
set_option maxRecDepth 100000 in
theorem save_any {w : World} {B D m : Nat} {S : St} {L : Lie} {k : Int} (h : DkL w B D m S L) (hk : 0 ≤ k) (hk2 : k ≤ 9223372036854775807) (hm : m + S.row.length < 99999) (hr : mayAll S.sure S.row) :
    Calls Tryz.prog 57 #[.pointer (some ⟨D, 0, none⟩), .int .i64 k] w (Saved w B D m S L k) := by
  have H := Lib.hid h
  have HR := Lib.hid hr
  obtain ⟨av, cap, hv⟩ := row_form h.row
  have c4 : w.cell? ⟨D, 4, none⟩ = some (.slice av S.row.length cap) := by rw [← hv]; exact h.blk.cell 4
  have HV := Lib.hid hv
  clear h hr hv
  generalize hn : S.row.length = n at *
  have HN := Lib.hid hn
  clear hn
  have hn9 : n ≤ 99999 := by omega
  go_enter Tryz.func57, Tryz.ntmps57
  go_wp2_with fail
  go_loopw [1, 13] (fun l i wq => ∃ (j : Nat) (k' : Int) (V1 : Nm → Value), i = .int .i64 j ∧ l = .int .i64 k' ∧ j ≤ n ∧ Sav w wq B D m S L j k k' V1) (fun _ i _ => n - (intOf i).toNat)
  case atStart => exact ⟨0, k, L.V1, rfl, rfl, Nat.zero_le _, H.out, Fr.refl _ _, fun q hq => .inl hq, rfl, hk, Int.le_refl _⟩
  case round =>
    obtain ⟨j, k', V1, rfl, rfl, hj, hS⟩ := hrel
    have HS := Lib.hid hS
    clear hS
    by_cases hjn : j < n
    · have hjl : j < S.row.length := by rw [HN.out]; exact hjn
      have hrow := HS.out.d.row
      obtain ⟨g, hga, hcell⟩ : ∃ g, av = some ⟨g, 0, none⟩ ∧ wr.cell? ⟨g, j, none⟩ = some (.iface S.row[j].ty S.row[j].in_) := by
        have hrow2 : wr.ownsRow B 62 1 (.slice av n cap) n (S.row.map Chg.val) := by
          rw [← HV.out, ← HN.out]; exact hrow
        exact row_cell hrow2 hjl
      subst hga
      clear hrow
      have hmay := mayAll_at HR.out hjl
      have hcm := may_cost hmay
      have hcp := cost_pos S.row[j]
      have hdrop : S.row.drop j = S.row[j] :: S.row.drop (j + 1) := List.drop_eq_getElem_cons hjl
      have HSN := Lib.hid (doAll_snoc S.sure S.row hjl)
      have HM := meth_cost S.row[j]
      have HE := enters_cost S.row[j]
      have HCO := Lib.hid (fun w => Chg.cost_any S.row[j] hcm w)
      obtain ⟨f0, a0, s0, HT, hput⟩ := assert_put S.row[j]
      have HP := Lib.hid hput
      have HDR := Lib.hid hdrop
      have HMAY := Lib.hid hmay
      have HDO := Lib.hid (fun w2 (hb : Below wr.heap.size wr w2) => DkL.doSure (HS.out.d.below hb) (by omega) (c := S.row[j]) hmay)
      have hval := Chg.val_eq S.row[j]
      rw [hval] at HDO
      have hkk := HS.out.pos
      have HKP := Lib.hid HS.out.eq
      clear hval hdrop hput hmay
      generalize S.row[j] = c at *
      by_cases hgt : k' < c.cost
      · have HGT := Lib.hid hgt
        have KEQ : Hid (keepF S.sure S.row k = tornF (doAll S.sure (S.row.take j)) c k') := Lib.hid (by
          rw [HKP.out, HDR.out, keepF_cons, if_pos hgt])
        have STOP : Hid (tornF (doAll S.sure (S.row.take j)) c k' = doAll S.sure (S.row.take j) → ∀ w3, Below wr.heap.size wr w3 → Saved w B D m S L k (.returned (.tuple #[])) w3) := Lib.hid (fun he w3 hb => HS.out.stop (by rw [HN.out]; exact hj) (by rw [HN.out]; exact hm) (KEQ.out.trans he) hb)
        have hct : k' < c.cost := hgt
        have HJ := Lib.hid hjl
        clear HSN HDR HKP hgt
        have hcb : c.isPut = true ∨ c.isPut = false := by cases c.isPut <;> simp
        rcases hcb with hb | hb
        · obtain ⟨n0, rfl, hc0⟩ := HP.out hb
          rw [hb] at HT
          by_cases hk0 : 0 < k'
          · have hcc : c.cost = 1 + s0.size := by rw [hc0]; rfl
            have hks : (k' - 1).toNat ≤ s0.size := by omega
            have TORN : Hid (tornF (doAll S.sure (S.row.take j)) c k' = (Chg.put f0 n0 (s0.extract 0 (k' - 1).toNat)).doF (doAll S.sure (S.row.take j))) := Lib.hid (by rw [hc0]; unfold tornF; simp only; rw [if_pos hk0])
            have hsz : (s0.extract 0 (k' - 1).toNat).size ≤ s0.size := by
              have h1 : (bl (s0.extract 0 (k' - 1).toNat)).length ≤ (bl s0).length := by
                unfold bl
                rw [Lib.extract_data, List.length_take, List.length_drop]
                omega
              rw [bl_len, bl_len] at h1
              exact h1
            have hmay2 : (Chg.put f0 n0 (s0.extract 0 (k' - 1).toNat)).may (doAll S.sure (S.row.take j)) := by
              have := HMAY.out
              rw [hc0] at this
              exact ⟨this.1, this.2.1, by have := this.2.2; omega⟩
            have LAST : Hid (∀ w3, Below wr.heap.size wr w3 → Calls Tryz.prog 20 #[.pointer (some ⟨D, 0, none⟩), .iface 60 (.agg #[.string f0, .int .i64 n0, .string (s0.extract 0 (k' - 1).toNat)])] w3 (fun e w4 => e = .returned (.tuple #[]) ∧ Saved w B D m S L k (.returned (.tuple #[])) w4 ∧ ∀ q, wr.heap.size ≤ q → q < w3.heap.size → w4.heap[q]? = w3.heap[q]?)) := Lib.hid (fun w3 hb3 => (DkL.doSure (HS.out.d.below hb3) (by omega) (c := Chg.put f0 n0 (s0.extract 0 (k' - 1).toNat)) hmay2).mono fun e w4 hd => by
              obtain ⟨rfl, V', d1, F, hN⟩ := hd
              refine ⟨rfl, HS.out.torn HJ.out (by rw [HN.out]; exact hm) (KEQ.out.trans TORN.out) hb3 d1 F hN, fun q hq1 hq2 => F.block q hq2 ?_⟩
              rintro (e | e)
              · have := HS.out.d.blk.lt; omega
              · have := (HS.out.d.f1.lt e).2; omega)
            have TRN := Lib.hid (fun w3 => torn_any f0 n0 (k' - 1).toNat s0 hks w3)
            have hkn : ((k' - 1).toNat : Int) = k' - 1 := by omega
            rw [hkn] at TRN
            unfold Chg.in_ at TRN
            simp only at TRN
            have hwk : IntKind.i64.wrap (k' - 1) = k' - 1 := IntWalk.i64_in _ (by omega)
            have HWK := Lib.hid hwk
            clear hwk
            clear HDO HP HMAY hmay2 hsz TORN STOP hcc hc0 hkn hb
            generalize c.cost = z at *
            generalize s0.extract 0 (k' - 1).toNat = s1 at *
            go_wp2_with fail
            refine (HCO.out _).mono ?_
            rintro e w2 ⟨rfl, b2⟩
            have B2 := Lib.hid b2
            clear b2 hcell
            obtain ⟨w3, hw3, hb3, Y3⟩ : ∃ w3, w3 = w2.alloc (Obj.cells #[.string f0, .int .i64 n0, .string s0] 60) ∧ Below w2.heap.size w2 w3 ∧ Blk w3 w2.heap.size 60 #[.string f0, .int .i64 n0, .string s0] := ⟨_, rfl, (Below.refl _ _).alloc (Nat.le_refl _) _, Blk.new _ _ _⟩
            have W3 := Lib.hid hw3
            have hYl := Y3.lt
            have BD := Lib.hid ((B2.out.trans (hb3.mono B2.out.size)).trans ((Below.refl w3.heap.size w3).drew.mono (Nat.le_trans B2.out.size hb3.size)))
            have y0 : w3.cell? ⟨w2.heap.size, 0, none⟩ = some (.string f0) := Y3.cell 0
            have y1 : w3.cell? ⟨w2.heap.size, 1, none⟩ = some (.int .i64 n0) := Y3.cell 1
            have y2 : w3.cell? ⟨w2.heap.size, 2, none⟩ = some (.string s0) := Y3.cell 2
            have L2 : Hid (∀ w4, Below w3.drew.heap.size w3.drew w4 → w4.cell? ⟨w2.heap.size, 0, none⟩ = some (.string f0) ∧ w4.cell? ⟨w2.heap.size, 1, none⟩ = some (.int .i64 n0) ∧ w4.cell? ⟨w2.heap.size, 2, none⟩ = some (.string s0) ∧ Calls Tryz.prog 20 #[.pointer (some ⟨D, 0, none⟩), .iface 60 (.agg #[.string f0, .int .i64 n0, .string s1])] w4 (fun e w5 => e = .returned (.tuple #[]) ∧ Saved w B D m S L k (.returned (.tuple #[])) w5 ∧ w5.cell? ⟨w2.heap.size, 0, none⟩ = some (.string f0) ∧ w5.cell? ⟨w2.heap.size, 1, none⟩ = some (.int .i64 n0) ∧ w5.cell? ⟨w2.heap.size, 2, none⟩ = some (.string s0))) := Lib.hid (fun w4 hb4 => by
              have hYd : Blk w3.drew w2.heap.size 60 #[.string f0, .int .i64 n0, .string s0] := Y3
              have hY4 := hYd.below hb4 hYl
              refine ⟨hY4.cell 0, hY4.cell 1, hY4.cell 2, (LAST.out w4 (BD.out.trans (hb4.mono BD.out.size))).mono fun e w5 hl => ?_⟩
              obtain ⟨he, hsv, hq⟩ := hl
              have hY5 : Blk w5 w2.heap.size 60 #[.string f0, .int .i64 n0, .string s0] := (hq _ B2.out.size hY4.lt).trans hY4
              exact ⟨he, hsv, hY5.cell 0, hY5.cell 1, hY5.cell 2⟩)
            clear hw3 hb3 Y3 LAST
            go_wp2_with fail
            rw [← W3.out]
            have hwk := HWK.out
            go_region_held3 (fun w' => w'.cell? ⟨w2.heap.size, 0, none⟩ = some (.string f0) ∧ w'.cell? ⟨w2.heap.size, 1, none⟩ = some (.int .i64 n0) ∧ w'.cell? ⟨w2.heap.size, 2, none⟩ = some (.string s0))
              (first | assumption | exact ⟨‹_›, ‹_›, ‹_›⟩ | trivial)
              (first | (go_at_call 77; refine (TRN.out _).mono ?_; rintro r0 w4 ⟨rfl, b4⟩; obtain ⟨x0, x1, x2, CL⟩ := L2.out w4 b4; have CLh := Lib.hid CL; clear CL) | (go_at_call 20; refine CLh.out.mono ?_; rintro r0 w5 ⟨rfl, hsv, v0, v1, v2⟩; have SV := Lib.hid hsv; clear hsv))
            clear y0 y1 y2 x0 x1 x2 v0 v1 v2 L2 CLh TRN
            go_wp2_with fail
            (try simp only [Exit.inBlock, Exit.then])
            refine bodyPost_ret (results_none rfl _ _ _) rfl ?_
            exact SV.out
          · have BASE : Hid (tornF (doAll S.sure (S.row.take j)) c k' = doAll S.sure (S.row.take j)) := Lib.hid (by rw [hc0]; unfold tornF; simp only; rw [if_neg hk0])
            have hk00 : k' = 0 := by omega
            subst hk00
            clear HDO HP HMAY hc0 hb
            generalize c.cost = z at *
            go_wp2_with fail
            refine (HCO.out _).mono ?_
            rintro e w2 ⟨rfl, b2⟩
            have B2 := Lib.hid b2
            clear b2 hcell
            have STP := Lib.hid (STOP.out BASE.out)
            clear STOP BASE
            go_wp2_with fail
            refine bodyPost_ret (results_none rfl _ _ _) rfl ?_
            exact STP.out _ (B2.out.trans (((Below.refl _ _).alloc (Nat.le_refl _) _).mono B2.out.size))
        · have BASE : Hid (tornF (doAll S.sure (S.row.take j)) c k' = doAll S.sure (S.row.take j)) := Lib.hid (by cases c <;> first | (cases hb; done) | rfl)
          have STP := Lib.hid (STOP.out BASE.out)
          rw [hb] at HT
          clear HDO HP HMAY hb BASE STOP
          generalize c.cost = z at *
          go_wp2_with fail
          refine (HCO.out _).mono ?_
          rintro e w2 ⟨rfl, b2⟩
          have B2 := Lib.hid b2
          clear b2 hcell
          go_wp2_with fail
          refine bodyPost_ret (results_none rfl _ _ _) rfl ?_
          exact STP.out _ (B2.out.trans (((Below.refl _ _).alloc (Nat.le_refl _) _).mono B2.out.size))
      · have HGE := Lib.hid hgt
        have NXT : Hid (∀ w3, Below wr.heap.size wr w3 → Calls Tryz.prog 20 #[.pointer (some ⟨D, 0, none⟩), .iface c.ty c.in_] w3 fun e w4 => e = .returned (.tuple #[]) ∧ ∃ V', Sav w w4 B D m S L (j + 1) k (k' - c.cost) V') := Lib.hid (fun w3 hb => (HDO.out w3 hb).mono fun e w4 hd => by
          obtain ⟨he, V', d1, F, hN⟩ := hd
          exact ⟨he, V', HS.out.next HSN.out HDR.out HGE.out hb d1 F hN⟩)
        have hct : c.cost ≤ k' := by omega
        clear HDO HT HP HMAY HSN HDR HKP
        generalize c.cost = z at *
        go_wp2_with fail
        refine (HCO.out _).mono ?_
        rintro e w2 ⟨rfl, b2⟩
        have B2 := Lib.hid b2
        clear b2
        go_wp2_with fail
        refine (HCO.out _).mono ?_
        rintro e w3 ⟨rfl, b3⟩
        have NX := Lib.hid (NXT.out w3 (B2.out.trans (b3.mono B2.out.size)))
        clear b3 NXT hcell
        go_wp2_with fail
        refine NX.out.mono ?_
        rintro e w4 ⟨rfl, V', hs4⟩
        have HS4 := Lib.hid hs4
        clear hs4 NX
        go_wp2_with fail
        go_roundw
        case rel => exact ⟨j + 1, k' - z, V', by go_num, rfl, by omega, HS4.out⟩
        case measure => simp [intOf]; omega
    · obtain rfl : j = n := by omega
      have FIN : Hid (Saved w B D m S L k (.returned (.tuple #[])) wr) := Lib.hid (HS.out.stop (by rw [HN.out]; exact Nat.le_refl _) (by rw [HN.out]; exact hm) (by
        rw [HS.out.eq, List.drop_eq_nil_of_le (by rw [HN.out]; exact Nat.le_refl _)]
        rfl) (Below.refl _ _))
      go_wp2_with fail
      go_end0
      exact FIN.out
end Go.Proofs.YthnnenhpcceckaaGreat
/-
  A DISK: Trip.
-/
namespace Go.Proofs.YthnnenhpcceckaaGreat
open Go.RowKit
def atLeast (n k : Int) : Int := if n < k then k else n
end Go.Proofs.YthnnenhpcceckaaGreat
/-
  A COPY OF FILES.
-/
namespace Go.Proofs.YthnnenhpcceckaaGreat
open Go.RowKit
theorem own_empty (w : World) : (w.alloc (Obj.cells #[] 5)).ownsRow w.heap.size 5 1 (.slice (some ⟨w.heap.size, 0, none⟩) 0 0) 0 [] :=
  ⟨rfl, .inr ⟨w.heap.size, 0, #[], rfl, Nat.le_refl _, heap_alloc_new w _, Nat.le_refl _, Nat.zero_le _, rfl, rfl⟩⟩
def Cloned (w : World) (l : List UInt8) (e : Ending) (w' : World) : Prop := ∃ a c, e = .returned (.slice a l.length c) ∧ w'.ownsRow w.heap.size 5 1 (.slice a l.length c) l.length (bcells l) ∧ Below w.heap.size w w'
set_option maxRecDepth 100000 in
theorem clone_any {w : World} {B : Nat} {v : Value} {l : List UInt8} (h : w.ownsRow B 5 1 v l.length (bcells l)) (hl : l.length ≤ 4194304) : Calls Tryz.prog 78 #[v] w (Cloned w l) := by
  obtain ⟨i5, hi, hz0, hz1, hz2⟩ := info_parts info5
  rcases h.2 with ⟨rfl, e⟩ | ⟨g, cap, cur, rfl, h4⟩
  · have e0 : l = [] := List.eq_nil_of_length_eq_zero e
    subst e0
    have hnl := Lib.run_eql_slice_nil (P := Tryz.prog) w 55 5 none 0 0 0 0 Tryz.underlying55
    clear h e
    go_enter Tryz.func78, Tryz.ntmps78
    go_wp2_with fail
    go_ret
    exact ⟨none, 0, rfl, World.ownsRow_nil _ _ _ _, Below.refl _ _⟩
  · have hg : g < w.heap.size := (World.ownsRow.lt h g rfl).2
    have ea : ∀ j, (⟨g, 0, none⟩ : Addr).add j = ⟨g, j, none⟩ := fun j => by unfold Addr.add; split <;> simp_all
    have HN : Hid (∀ j u, (bcells l)[j]? = some u → (w.alloc (Obj.cells #[] 5)).cell? ((⟨g, 0, none⟩ : Addr).add j) = some u) := Lib.hid (fun j u hj => by
      have hj' : j < l.length := by have := (List.getElem?_eq_some_iff.1 hj).1; rw [bcells_len] at this; exact this
      have hcc := World.ownsRow.cellAt h j (by omega)
      rw [ea, World.cell?_alloc_lt _ _ _ hg, hcc]
      exact hj)
    have H1 : Hid (∀ u ∈ bcells l, u.oneCell' = true) := Lib.hid (by
      intro u hu
      unfold bcells at hu
      obtain ⟨b, _, rfl⟩ := List.mem_map.1 hu
      rfl)
    have HLEN : Hid ((bcells l).length = l.length * 1) := Lib.hid (by rw [bcells_len]; omega)
    have O0 := Lib.hid (own_empty w)
    have B0 := Lib.hid ((Below.refl w.heap.size w).alloc (Nat.le_refl _) (Obj.cells #[] 5))
    have FIN : Hid (∀ v' w', w'.ownsRow w.heap.size 5 1 v' (0 + l.length) ([] ++ bcells l) → (w.alloc (Obj.cells #[] 5)).grownBy w' (some w.heap.size) → Cloned w l (.returned v') w') := Lib.hid (fun v' w' ho hg2 => by
      rw [Nat.zero_add, List.nil_append] at ho
      obtain ⟨a, c, rfl⟩ := own_form ho
      exact ⟨a, c, rfl, ho, B0.out.trans ⟨hg2.os, hg2.tape, hg2.output, hg2.size, fun q hq => hg2.block q (by simp; omega) (by simp; omega)⟩⟩)
    clear h h4 ea
    generalize l.length = n at *
    have hnl := Lib.run_eql_slice_nil (P := Tryz.prog) w 55 5 (some ⟨g, 0, none⟩) n cap 0 0 Tryz.underlying55
    go_enter Tryz.func78, Tryz.ntmps78
    go_wp2_with (at_builtin; refine wpList_append_own _ rfl (.tmp 5) (.tmp 6) 55 rfl w.heap.size 5 i5 (.int .u8 0) 1 1 Tryz.underlying55 hi hz0 hz1 hz2 rfl (by decide) (.slice (some ⟨w.heap.size, 0, none⟩) 0 0) 0 [] rfl O0.out ⟨g, 0, none⟩ n cap (bcells l) rfl HLEN.out HN.out H1.out (by unfold maxLen; omega) (by omega) (by simp) ?_; intro v' w4 ho4 hg4 _)
    have F4 := Lib.hid (FIN.out _ _ ho4 hg4)
    clear ho4 hg4
    go_wp2_with fail
    go_ret
    exact F4.out
/-- what has been copied: what is not left to come -/
def Got (fs fs' : Fm) (left : Lit → Bool) : Prop := ∀ s, get fs' s = if left (key s) then none else get fs s
theorem inv_key (kv : Value) (kl : Lit) (h : keyOf Tryz.prog 9 kv = some kl) : ∃ x, kv = .string x := by
  cases kv <;> simp [keyOf, mapKey, Tryz.underlying9] at h
  exact ⟨_, rfl⟩
theorem inv_key2 {x : Nm} {kl : Lit} (h : keyOf Tryz.prog 9 (.string x) = some kl) : kl = key x ∧ x.size ≤ maxLen := by
  simp [keyOf, mapKey, Tryz.underlying9] at h
  exact ⟨h.2.symm, h.1⟩
theorem got_next {fs fs' : Fm} {left : Lit → Bool} {x : Nm} (h : Got fs fs' left) (hx : get fs x = some (gl fs x)) : Got fs (put fs' x (gl fs x)) (fun z => left z && !z.sameKey (key x)) := by
  intro s
  by_cases e : s = x
  · subst e
    rw [get_put_same]
    have e1 := WideAt.sameKey_self (isKey s)
    simp only [e1]
    simp [hx]
  · rw [get_put_other _ e, h s]
    have e1 := Maps.sameKey_ne (key_ne e)
    simp only [e1]
    simp
theorem own_mono {w : World} {B B' : Nat} {v : Value} {n : Nat} {xs : List Value} (h : w.ownsRow B 5 1 v n xs) (hB : B' ≤ B) : w.ownsRow B' 5 1 v n xs := by
  refine ⟨h.1, ?_⟩
  rcases h.2 with hn | ⟨g, cap, cur, e, hg, rest⟩
  · exact .inl hn
  · exact .inr ⟨g, cap, cur, e, Nat.le_trans hB hg, rest⟩
theorem Fls.base {w : World} {B B' M n : Nat} {fs : Fm} {V : Nm → Value} (h : Fls w B M n fs V) (hB : B' ≤ B) : Fls w B' M n fs V :=
  ⟨h.map, fun s => own_mono (h.own s) hB, h.apart, Nat.le_trans hB h.off.1, h.off.2⟩
/-- while a copy is made: w1 is the world behind the first block, Y2 the result's -/
structure Cop (w wq : World) (M' n' m cnt Y3 r M n : Nat) (D : DataW Value) (fs fs' : Fm) (left : Lit → Bool) (V' : Nm → Value) : Prop where
  b : Below w.heap.size w wq
  f : Fls wq (w.heap.size + 1) M' n' fs' V'
  y2 : Blk wq w.heap.size 50 #[.map none, .int .i64 0]
  y : Blk wq Y3 50 #[.map (some M'), .int .i64 (sz fs')]
  yf : ¬ Foot M' V' Y3 ∧ w.heap.size < Y3
  rg : wq.ranges Tryz.prog 9 Rv M r n D left cnt
  rf : ¬ Foot M' V' r ∧ r ≠ Y3 ∧ w.heap.size < r
  ml : M < w.heap.size
  g : Good fs' n'
  got : Got fs fs' left
  cnt : n' + cnt ≤ m
/-- the iterator goes on -/
theorem Cop.step {w wq wq' : World} {M' n' m cnt cnt' Y3 r M n : Nat} {D : DataW Value} {fs fs' : Fm} {left left' : Lit → Bool} {V' : Nm → Value} (h : Cop w wq M' n' m cnt Y3 r M n D fs fs' left V') (hg : wq.grownBy wq' (some r)) (_hr : wq'.ranges Tryz.prog 9 Rv M r n D left' cnt') :
    Fls wq' (w.heap.size + 1) M' n' fs' V' ∧ Blk wq' w.heap.size 50 #[.map none, .int .i64 0] ∧ Blk wq' Y3 50 #[.map (some M'), .int .i64 (sz fs')] ∧ Below w.heap.size w wq' := by
  have F := Fr.of_grown hg
  have hl := h.rf.2.2
  refine ⟨h.f.fr F (fun q hq e => h.rf.1 (by have := Option.some.inj e; rw [← this]; exact hq)), h.y2.fr F (fun e => by have := Option.some.inj e; omega), h.y.fr F (fun e => h.rf.2.1 (Option.some.inj e).symm), h.b.trans ⟨hg.os, hg.tape, hg.output, hg.size, fun q hq => hg.block q (Nat.lt_of_lt_of_le hq h.b.size) (fun e => by have := Option.some.inj e; omega)⟩⟩
theorem ranges_same {w w' : World} {M r n cnt : Nat} {D : DataW Value} {left : Lit → Bool} (h : w.ranges Tryz.prog 9 Rv M r n D left cnt) (hM : w'.heap[M]? = w.heap[M]?) (hr : w'.heap[r]? = w.heap[r]?) : w'.ranges Tryz.prog 9 Rv M r n D left cnt := by
  obtain ⟨es, clock, since, seen, c0, hb, F, hs, hD, hr2, rest⟩ := h
  exact ⟨es, clock, since, seen, c0, hM.trans hb, F, hs, hD, hr.trans hr2, rest⟩
/-- behind a round -/
theorem Cop.next {w wr w4 w5 w6 : World} {M' n' m cnt cnt' Y3 r M n : Nat} {D : DataW Value} {fs fs' : Fm} {left : Lit → Bool} {V' : Nm → Value} {x : Nm} {a : Option Addr} {c : Nat} {e : Ending} (h : Cop w wr M' n' m cnt Y3 r M n D fs fs' left V') (hlt : cnt' < cnt) (hgr : wr.grownBy w4 (some r)) (hz : w4.heap.size = wr.heap.size) (hrg : w4.ranges Tryz.prog 9 Rv M r n D (fun z => left z && !z.sameKey (key x)) cnt')
    (hx : get fs x = some (gl fs x)) (hG : (gl fs x).length ≤ 4194304) (b5 : Below w4.heap.size w4 w5) (ho : w5.ownsRow w4.heap.size 5 1 (.slice a (gl fs x).length c) (gl fs x).length (bcells (gl fs x)))
    (hs : Setd w5 (w.heap.size + 1) Y3 M' (n' + 1) 50 0 #[.map (some M'), .int .i64 (sz fs')] (put fs' x (gl fs x)) (upd V' x (.slice a (gl fs x).length c)) (sz (put fs' x (gl fs x))) e w6) :
    Cop w w6 M' (n' + 1) m cnt' Y3 r M n D fs (put fs' x (gl fs x)) (fun z => left z && !z.sameKey (key x)) (upd V' x (.slice a (gl fs x).length c)) := by
  obtain ⟨s1, s2, s3, s4⟩ := h.step hgr hrg
  obtain ⟨_, j1, j2, j3⟩ := hs
  have hb5 := b5.size
  have hM' := s1.lt (.inl rfl)
  have hY3l := s3.lt
  have hrl := hrg.lt
  have hYf := h.yf
  have hrf := h.rf
  have hml := h.ml
  have hbs := s4.size
  have hfoot : ∀ q, Foot M' (upd V' x (.slice a (gl fs x).length c)) q → Foot M' V' q ∨ w4.heap.size ≤ q := fun q hq => by
    rcases foot_upd hq with h | h
    · exact .inl h
    · exact .inr (World.ownsRow.lt ho q h).1
  refine ⟨s4.trans (⟨j3.os.trans b5.os, j3.tape.trans b5.tape, j3.output.trans b5.output, Nat.le_trans b5.size j3.size, fun q hq => (j3.block q (by omega) (by rintro (e | e) <;> omega)).trans (b5.block q (by omega))⟩), j1, ?_, j2, ⟨fun hq => ?_, hYf.2⟩, ?_, ⟨fun hq => ?_, hrf.2⟩, hml, h.g.put x hG, got_next h.got hx, by have := h.cnt; omega⟩
  · exact (s2.below b5 (by omega)).fr j3 (by rintro (e | e) <;> omega)
  · rcases hfoot _ hq with h' | h'
    · exact hYf.1 h'
    · omega
  · refine ranges_same hrg ?_ ?_
    · rw [j3.block M (by omega) (by rintro (e | e) <;> omega), b5.block M (by omega)]
    · rw [j3.block r (by omega) (by
        rintro (e | e)
        · exact hrf.2.1 e
        · exact hrf.1 (.inl e)), b5.block r (by omega)]
  · rcases hfoot _ hq with h' | h'
    · exact hrf.1 h'
    · omega
set_option maxHeartbeats 4000000 in
set_option maxRecDepth 100000 in
theorem copy_any {w : World} {B T D o M n : Nat} {cs : Array Value} {fs : Fm} {V : Nm → Value} (h : Fls w B M n fs V) (hB : Blk w D T cs) (h0 : cs[o]? = some (.map (some M))) (hG : Good fs n) (hn : n ≤ 100000) :
    Calls Tryz.prog 58 #[.pointer (some ⟨D, o, none⟩)] w fun e w' => ∃ M' fs' V', e = .returned (.agg #[.map (some M'), .int .i64 (sz fs')]) ∧ Fls w' w.heap.size M' n fs' V' ∧ Good fs' n ∧ (∀ s, get fs' s = get fs s) ∧ Below w.heap.size w w' := by
  have Hh := Lib.hid h
  have c0 : w.cell? ⟨D, o, none⟩ = some (.map (some M)) := by rw [hB.cell]; exact h0
  have hDl := hB.lt
  clear h hB h0
  go_enter Tryz.func58, Tryz.ntmps58
  go_wp2_with fail
  have b0 := (Below.refl w.heap.size w).alloc (Nat.le_refl _) (Obj.cells #[.map none, .int .i64 0] 50)
  have hY2 : Blk (w.alloc (Obj.cells #[.map none, .int .i64 0] 50)) w.heap.size 50 #[.map none, .int .i64 0] := Blk.new _ _ _
  have hs0 : (w.alloc (Obj.cells #[.map none, .int .i64 0] 50)).heap.size = w.heap.size + 1 := by simp
  refine (blank_any (B := w.heap.size + 1) (by rw [hs0]; exact Nat.le_refl _)).mono ?_
  rintro e w1 ⟨M', rfl, f1, b1, l1⟩
  have hM' := (f1.lt (.inl rfl)).2
  rw [hs0] at l1
  have hs1 := b1.size
  rw [hs0] at hs1
  obtain ⟨w2, hw2, b2, k2⟩ : ∃ w2, w2 = w1.alloc (Obj.cells #[.map (some M'), .int .i64 0] 50) ∧ Below w1.heap.size w1 w2 ∧ Blk w2 w1.heap.size 50 #[.map (some M'), .int .i64 0] := ⟨_, rfl, (Below.refl _ _).alloc (Nat.le_refl _) _, Blk.new _ _ _⟩
  have B2 := Lib.hid (b0.trans ((b1.trans (b2.mono b1.size)).mono (by rw [hs0]; omega)))
  have F2 := Lib.hid (f1.below b2)
  have Y2 := Lib.hid ((hY2.below b1 (by rw [hs0]; omega)).below b2 (by omega))
  have K2 := Lib.hid k2
  have W2 := Lib.hid hw2
  have hs2 := b2.size
  have hk2 := k2.lt
  obtain ⟨⟨DD, hD, hD1, hD2⟩, _⟩ := Hh.out.below B2.out
  have HD := Lib.hid hD
  have HD1 := Lib.hid hD1
  have HD2 := Lib.hid hD2
  have hMl := Lib.hid (Hh.out.lt (.inl rfl)).2
  have c1 : w1.cell? ⟨D, o, none⟩ = some (.map (some M)) := by
    have := (b0.trans (b1.mono (by rw [hs0]; omega))).cell (p := ⟨D, o, none⟩) hDl
    rw [this]; exact c0
  have hlt1 : D < w1.heap.size := by omega
  clear f1 b1 b2 k2 hw2 b0 hY2 hD hD1 hD2 c0 hs0
  go_wp2_with (at_range; refine wpList_range_own _ rfl _ 48 rfl 9 55 law9 Tryz.underlying48 _ M n DD rfl (by rw [← W2.out]; exact HD.out) ?_; intro w3 hrg0 hg0 hsz0)
  have START : ∃ cnt left, Cop w w3 M' 0 n cnt w1.heap.size (w1.heap.size + 1) M n DD fs [] left (fun _ => nilS) := by
    rw [← W2.out] at hrg0 hg0 hsz0
    have hw2s : w2.heap.size = w1.heap.size + 1 := by rw [W2.out]; simp
    rw [hw2s] at hrg0
    have FW : Fr w2 w3 (fun _ => False) := ⟨hg0.os, hg0.tape, hg0.output, hg0.size, fun q hq _ => hg0.block q hq (by simp)⟩
    refine ⟨_, _, ⟨B2.out.trans ⟨hg0.os, hg0.tape, hg0.output, hg0.size, fun q hq => hg0.block q (Nat.lt_of_lt_of_le hq B2.out.size) (by simp)⟩, F2.out.fr FW (fun _ _ h => h), Y2.out.fr FW (fun h => h), K2.out.fr FW (fun h => h), ⟨fun h => by have := foot_nil h; omega, by omega⟩, hrg0, ⟨fun h => by have := foot_nil h; omega, by omega, by omega⟩, hMl.out, good_nil _, fun s => ?_, ?_⟩⟩
    · rw [HD1.out s]
      cases hg : get fs s with
      | none => rfl
      | some l => rfl
    · have := HD.out.size_le
      omega
  have CS := Lib.hid START
  have HR := Lib.hid hs2
  clear START hrg0 hg0 hsz0 F2 Y2 K2 c1 hs2 hk2
  have hMl1 : w.heap.size + 1 ≤ w1.heap.size := hs1
  have hW2s : w2.heap.size = w1.heap.size + 1 := by rw [W2.out]; simp
  have HW2s := Lib.hid hW2s
  clear hW2s
  try go_frame
  rw [show (w1.alloc (Obj.cells #[.map (some M'), .int .i64 0] 50)).heap.size = w1.heap.size + 1 by simp]
  go_loopw [4] (fun _ wq => ∃ (n' cnt : Nat) (fs' : Fm) (left : Lit → Bool) (V' : Nm → Value), Cop w wq M' n' n cnt w1.heap.size (w1.heap.size + 1) M n DD fs fs' left V') (fun _ wq => wq.rangeLeft M (w1.heap.size + 1))
  case atStart =>
    obtain ⟨cnt, left, hc⟩ := CS.out
    exact ⟨0, cnt, [], left, _, hc⟩
  case round =>
    obtain ⟨n', cnt, fs', left, V', hC⟩ := hrel
    have HC := Lib.hid hC
    have hrg := hC.rg
    clear hC CS
    go_wp2_with (at_next; refine wpList_next_ranges _ rfl _ rfl 9 law9 Rv Value.string (fun (v : Value) => v) inv_key (fun v _ _ => ⟨v, rfl⟩) M (w1.heap.size + 1) n DD left cnt rfl hrg ?_ ?_)
    · intro hc0 hl0
      have y0 : wr.cell? ⟨w1.heap.size, 0, none⟩ = some (.map (some M')) := HC.out.y.cell 0
      have y1 : wr.cell? ⟨w1.heap.size, 1, none⟩ = some (.int .i64 (sz fs')) := HC.out.y.cell 1
      have x0 : wr.cell? ⟨w.heap.size, 0, none⟩ = some (.map none) := HC.out.y2.cell 0
      have x1 : wr.cell? ⟨w.heap.size, 1, none⟩ = some (.int .i64 0) := HC.out.y2.cell 1
      have f0 := HC.out.y2.free 0
      have f1 := HC.out.y2.free 1
      obtain ⟨w5, hw5, k5, F5⟩ : ∃ w5, w5 = (wr.setCell ⟨w.heap.size, 0, none⟩ (.map (some M'))).setCell ⟨w.heap.size, 1, none⟩ (.int .i64 (sz fs')) ∧ Blk w5 w.heap.size 50 #[.map (some M'), .int .i64 (sz fs')] ∧ Fr wr w5 (fun q => q = w.heap.size) :=
        ⟨_, rfl, (HC.out.y2.set 0 _).set 1 _, (fr_set _ _ _ _).trans (fr_set _ _ _ _) (fun _ _ h => h) (fun _ _ h => h)⟩
      have z0 : w5.cell? ⟨w.heap.size, 0, none⟩ = some (.map (some M')) := k5.cell 0
      have z1 : w5.cell? ⟨w.heap.size, 1, none⟩ = some (.int .i64 (sz fs')) := k5.cell 1
      have FIN : Hid (∃ M'' fs'' V'', Ending.returned (.agg #[.map (some M'), .int .i64 (sz fs')]) = .returned (.agg #[.map (some M''), .int .i64 (sz fs'')]) ∧ Fls w5 w.heap.size M'' n fs'' V'' ∧ Good fs'' n ∧ (∀ s, get fs'' s = get fs s) ∧ Below w.heap.size w w5) := Lib.hid (by
        have hle := HC.out.cnt
        refine ⟨M', fs', V', rfl, ((HC.out.f.fr F5 (fun q hq e => ?_)).mono (by omega)).base (Nat.le_succ _), ⟨HC.out.g.uniq, by have := HC.out.g.few; omega, HC.out.g.small⟩, fun s => ?_, HC.out.b.trans ⟨F5.os, F5.tape, F5.output, F5.size, fun q hq => F5.block q (Nat.lt_of_lt_of_le hq HC.out.b.size) (by omega)⟩⟩
        · have := (HC.out.f.lt hq).1
          omega
        · have := HC.out.got s
          rw [hl0] at this
          exact this)
      have W5 := Lib.hid hw5
      clear hc0 hl0 hrg hw5 k5 F5
      go_wp2_with fail
      rw [← W5.out]
      refine bodyPost_ret (by simp [results, Tryz.results58, go_sem, z0, z1]; try rfl) rfl ?_
      exact FIN.out
    · intro x c kl yd yp w4 cnt' hkey hlk hRv hat hrg4 hlt hgr hsz4 hen
      obtain ⟨hkl, hxs⟩ := inv_key2 hkey
      have hcV : V x = c := by
        unfold Rv at hRv
        simp only [Option.some.injEq, Prod.mk.injEq] at hRv
        have h1 := hat (.held nilS)
        rw [hkl, HD2.out x] at h1
        have h2 := h1.trans hRv.1.symm
        injection h2
      obtain ⟨s1, s2, s3, s4⟩ := HC.out.step hgr hrg4
      have hgx : get fs x = some (gl fs x) := by
        have h3 : (get fs x).isSome = true := by
          rw [← HD1.out x, ← hkl]
          exact Maps.has_true_of_atKey hat
        unfold gl
        cases hg : get fs x with
        | none => rw [hg] at h3; simp at h3
        | some l => rfl
      have hgl := hG.gl_le x
      have hown := (Hh.out.below s4).own x
      rw [hcV] at hown
      have CLN := Lib.hid (clone_any hown hgl)
      rw [hkl] at hrg4
      have g0 : gl fs' x = [] := by
        have h1 := HC.out.got x
        have h2 : left (key x) = true := by rw [← hkl]; exact hlk
        rw [h2] at h1
        unfold gl
        rw [h1]; rfl
      have hsz' := HC.out.g.sz_le
      have hcn := HC.out.cnt
      have hxs2 : x.size ≤ 9223372036854775807 := by unfold maxLen at hxs; omega
      have NXT : Hid (∀ w5 a c, Below w4.heap.size w4 w5 → w5.ownsRow w4.heap.size 5 1 (.slice a (gl fs x).length c) (gl fs x).length (bcells (gl fs x)) →
          Calls Tryz.prog 35 #[.pointer (some ⟨w1.heap.size, 0, none⟩), .string x, .slice a (gl fs x).length c] w5 (fun e w6 => e = .returned (.tuple #[]) ∧ ∃ V'', Cop w w6 M' (n' + 1) n cnt' w1.heap.size (w1.heap.size + 1) M n DD fs (put fs' x (gl fs x)) (fun z => left z && !z.sameKey (key x)) V'')) := Lib.hid (fun w5 a c b5 ho => by
        have hbl := (World.ownsRow.lt ho)
        have hfl : ∀ q, Foot M' V' q → q < w4.heap.size := fun q hq => (s1.lt hq).2
        have hY := s3.lt
        have C := set_any (o := 0) (u := (sz fs' : Int)) (s1.below b5) (s3.below b5 hY) rfl rfl HC.out.yf.1 (s := x) hxs2 (by omega) (by omega) (by omega) hgl (by rw [g0]; simp) (by rw [g0]; simp) (own_mono ho (by have := s4.size; have := HC.out.y2.lt; omega))
          (fun t ht => by
            cases hb : (Value.slice a (gl fs x).length c).ownBlock with
            | none => exact .inl rfl
            | some q =>
              refine .inr (fun e => ?_)
              have h1 := (hbl q hb).1
              have h2 := hfl q (.inr ⟨t, e.symm⟩)
              omega)
          (fun e => by have h1 := (hbl _ e).1; have h2 := hfl M' (.inl rfl); omega)
          (fun e => by have h1 := (hbl _ e).1; omega)
        have e1 : (sz fs' : Int) + (((gl fs x).length : Int) - (gl fs' x).length) = (sz (put fs' x (gl fs x)) : Int) := by have := sz_put HC.out.g.uniq x (gl fs x); omega
        rw [e1] at C
        exact C.mono fun e w6 hs => ⟨hs.1, _, HC.out.next hlt hgr hsz4 hrg4 hgx hgl b5 ho hs⟩)
      have CNT := Lib.hid hlt
      have RL := Lib.hid hrg.left_eq
      clear hrg4 hlt hgr hsz4 hat hRv hkey hlk hkl hcV s1 s2 s3 s4 hgx hown g0 hsz' hcn hrg hxs
      generalize gl fs x = l at *
      go_wp2_with fail
      refine CLN.out.mono ?_
      rintro e w5 ⟨a, cp, rfl, ho5, b5⟩
      have NX := Lib.hid (NXT.out w5 a cp b5 ho5)
      clear ho5 b5 hen CLN NXT
      go_wp2_with fail
      refine NX.out.mono ?_
      rintro e w6 ⟨rfl, V'', hc6⟩
      have HC6 := Lib.hid hc6
      clear hc6 NX
      go_wp2_with fail
      go_roundw
      case rel => exact ⟨n' + 1, cnt', _, _, V'', HC6.out⟩
      case measure =>
        rw [HC6.out.rg.left_eq, RL.out]
        exact CNT.out
end Go.Proofs.YthnnenhpcceckaaGreat
/-
  THE POWER FAILS: Fail.
-/
namespace Go.Proofs.YthnnenhpcceckaaGreat
open Go.RowKit
theorem fail_nil (k : Int) (w : World) : Calls Tryz.prog 34 #[.pointer none, .int .i64 k] w fun e w' => e = .returned (.tuple #[]) ∧ w = w' := by
  go_enter Tryz.func34, Tryz.ntmps34
  go_wp2_with fail
  refine (ready_nil _).mono ?_
  rintro e w1 ⟨rfl, rfl⟩
  go_wp2_with fail
  (first | go_end0 | (simp only [Exit.inBlock, Exit.then]; refine bodyPost_ret (results_none rfl _ _ _) rfl ?_) | refine bodyPost_ret (results_none rfl _ _ _) rfl ?_)
  exact ⟨rfl, rfl⟩
theorem fail_down {w : World} {B D m : Nat} {S : St} {L : Lie} (h : DkL w B D m S L) (hd : S.down = true) (k : Int) : Calls Tryz.prog 34 #[.pointer (some ⟨D, 0, none⟩), .int .i64 k] w fun e w' => e = .returned (.tuple #[]) ∧ w = w' := by
  have R := Lib.hid (ready_any h.blk)
  unfold readyE at R
  rw [hd, if_pos rfl] at R
  clear h hd
  go_enter Tryz.func34, Tryz.ntmps34
  go_wp2_with fail
  refine R.out.mono ?_
  rintro e w1 ⟨rfl, rfl⟩
  go_wp2_with fail
  (first | go_end0 | (simp only [Exit.inBlock, Exit.then]; refine bodyPost_ret (results_none rfl _ _ _) rfl ?_) | refine bodyPost_ret (results_none rfl _ _ _) rfl ?_)
  exact ⟨rfl, rfl⟩
/-- the row is empty -/
theorem DkL.bare {w : World} {B D m : Nat} {S : St} {L : Lie} (h : DkL w B D m S L) : DkL (w.setCell ⟨D, 4, none⟩ nilS) B D m { S with row := [] } { L with v := nilS } := by
  have F := fr_set w D 4 nilS
  have hb := h.blk.set 4 nilS
  refine ⟨hb, h.f1.fr F (fun q hq e => h.d1 (e ▸ hq)), h.f2.fr F (fun q hq e => h.d2 (e ▸ hq)), World.ownsRow_nil _ _ _ _, h.g1, h.g2, Nat.zero_le _, h.d1, h.d2, h.d12, fun q hq => ?_, h.base, h.calls, h.trip, h.low⟩
  simp [nilS, Value.ownBlock] at hq
/-- the second files are others -/
theorem DkL.fresh {w : World} {B D m M' : Nat} {S : St} {L : Lie} {fs : Fm} {V : Nm → Value} {A : Nat} (h : DkL w B D m S L) (f : Fls w B M' m fs V) (hN : ∀ q, Foot M' V q → A ≤ q) (hA : ∀ q, L.foot D q → q < A) (hG : Good fs m) :
    DkL ((w.setCell ⟨D, 2, none⟩ (.map (some M'))).setCell ⟨D, 3, none⟩ (.int .i64 (sz fs))) B D m { S with now := fs } { L with M2 := M', V2 := V } := by
  have F := (fr_set w D 2 (.map (some M'))).trans (fr_set _ D 3 (.int .i64 (sz fs))) (R := fun q => q = D) (fun _ _ h => h) (fun _ _ h => h)
  have hb := (h.blk.set 2 (.map (some M'))).set 3 (.int .i64 (sz fs))
  have hD : ¬ Foot M' V D := fun hq => by have := hN D hq; have := hA D (.inl rfl); omega
  have hrow : ((w.setCell ⟨D, 2, none⟩ (.map (some M'))).setCell ⟨D, 3, none⟩ (.int .i64 (sz fs))).ownsRow B 62 1 L.v S.row.length (S.row.map Chg.val) :=
    World.ownsRow.kept h.row (row := some D) ⟨F.os, F.tape, F.output, F.size, fun q hq hne => F.block q hq (fun e => hne (by rw [e]))⟩ (by
      cases hv : L.v.ownBlock with
      | none => exact .inl rfl
      | some q => exact .inr (fun e => (h.dv q hv).1 (Option.some.inj e)))
  refine ⟨hb, h.f1.fr F (fun q hq e => h.d1 (e ▸ hq)), f.fr F (fun q hq e => hD (e ▸ hq)), hrow, h.g1, hG, h.few, h.d1, hD, fun q hq hq2 => ?_, fun q hq => ?_, h.base, h.calls, h.trip, h.low⟩
  · have := hN q hq2; have := hA q (.inr (.inl hq)); omega
  · obtain ⟨a1, a2, _⟩ := h.dv q hq
    refine ⟨a1, a2, fun hq2 => ?_⟩
    have := hN q hq2; have := hA q (.inr (.inr (.inr hq))); omega
set_option maxHeartbeats 4000000 in
set_option maxRecDepth 100000 in
theorem fail_up {w : World} {B D m : Nat} {S : St} {L : Lie} (h : DkL w B D m S L) (hd : S.down = false) (hr : mayAll S.sure S.row) (hm : m + S.row.length < 99999) (k : Int) (hk : k ≤ 9223372036854775807) :
    Calls Tryz.prog 34 #[.pointer (some ⟨D, 0, none⟩), .int .i64 k] w fun e w' => e = .returned (.tuple #[]) ∧ ∃ N L', DkL w' B D (m + S.row.length + 1) { S with sure := keepF S.sure S.row (atLeast k 0), now := N, row := [], trip := 0, keep := 0, down := true } L' ∧ (∀ s, get N s = get (keepF S.sure S.row (atLeast k 0)) s) ∧ Fr w w' (L.foot D) ∧ ∀ q, L'.foot D q → L.foot D q ∨ w.heap.size ≤ q := by
  have R := Lib.hid (ready_any h.blk)
  unfold readyE at R
  rw [hd, if_neg (by decide)] at R
  have SV := Lib.hid (save_any (k := atLeast k 0) h (by unfold atLeast; split <;> omega) (by unfold atLeast; split <;> omega) hm hr)
  have H := Lib.hid h
  have hl := h.blk.lt
  clear h hd hr
  generalize hK : keepF S.sure S.row (atLeast k 0) = K at *
  have HK := Lib.hid hK
  clear hK
  have MX : (if k < 0 then 0 else k) = atLeast k 0 := rfl
  go_enter Tryz.func34, Tryz.ntmps34
  go_wp2_with fail
  refine R.out.mono ?_
  rintro e w1 ⟨rfl, rfl⟩
  go_wp2_with fail
  refine SV.out.mono ?_
  rintro e w2 ⟨rfl, V1, h2, F2, hN2⟩
  rw [HK.out] at h2
  have c4 : w2.cell? ⟨D, 4, none⟩ = some L.v := h2.blk.cell 4
  have f4 := h2.blk.free 4
  have h3 := h2.bare
  obtain ⟨w3, hw3, h3, F3⟩ : ∃ w3, w3 = w2.setCell ⟨D, 4, none⟩ nilS ∧ DkL w3 B D (m + S.row.length + 1) { S with sure := K, row := [] } { L with V1 := V1, v := nilS } ∧ Fr w2 w3 (fun q => q = D) := ⟨_, rfl, h3, fr_set _ _ _ _⟩
  have CP := Lib.hid (copy_any (o := 0) h3.f1 h3.blk rfl h3.g1 h3.low)
  have W3 := Lib.hid hw3
  have H3 := Lib.hid h3
  have FF := Lib.hid (F2.trans F3 (R := L.foot D) (fun q _ hh => hh.elim .inl (fun h => .inr (.inl h))) (fun q _ hh => .inl hh))
  have hN2' := Lib.hid hN2
  clear h2 F2 hN2 h3 hw3 SV R
  have hl3 : D < w3.heap.size := H3.out.blk.lt
  unfold nilS at W3
  go_wp2_with fail
  rw [← W3.out]
  refine CP.out.mono ?_
  rintro e w4 ⟨M', fs', V', rfl, h4, hG4, hget, b4⟩
  have h5 := H3.out.below b4
  have c7 : w4.cell? ⟨D, 7, none⟩ = some (.int .i64 S.trip) := h5.blk.cell 7
  have c8 : w4.cell? ⟨D, 8, none⟩ = some (.int .i64 S.keep) := h5.blk.cell 8
  have c9 : w4.cell? ⟨D, 9, none⟩ = some (.bool S.down) := h5.blk.cell 9
  have c2 : w4.cell? ⟨D, 2, none⟩ = some (.map (some L.M2)) := h5.blk.cell 2
  have c3 : w4.cell? ⟨D, 3, none⟩ = some (.int .i64 (sz S.now)) := h5.blk.cell 3
  have f7 := h5.blk.free 7
  have f8 := h5.blk.free 8
  have f9 := h5.blk.free 9
  have f2 := h5.blk.free 2
  have f3 := h5.blk.free 3
  have H5 := Lib.hid h5
  have H4 := Lib.hid h4
  have G4 := Lib.hid hG4
  have HG := Lib.hid hget
  have B4 := Lib.hid b4
  clear h5 h4 hG4 hget b4 CP c4 f4 W3
  go_wp2_with fail
  (first | go_end0 | (simp only [Exit.inBlock, Exit.then]; refine bodyPost_ret (results_none rfl _ _ _) rfl ?_) | refine bodyPost_ret (results_none rfl _ _ _) rfl ?_)
  have hB3 : B ≤ w3.heap.size := Nat.le_trans H3.out.base (Nat.le_of_lt hl3)
  have hA : ∀ q, Foot M' V' q → w3.heap.size ≤ q := fun q hq => (H4.out.lt hq).1
  have hL : ∀ q, (Lie.foot { M1 := L.M1, M2 := L.M2, V1 := V1, V2 := L.V2, v := nilS } D q) → q < w3.heap.size := fun q hq => (H3.out.lt hq).2
  have d6 := H5.out.fresh (H4.out.base hB3) hA hL G4.out
  have d7 := d6.turn (i := 7) (u := .int .i64 0) (S' := { S with sure := K, now := fs', row := [], trip := 0 }) rfl rfl rfl rfl d6.calls (Int.le_refl _)
  have d8 := d7.turn (i := 8) (u := .int .i64 0) (S' := { S with sure := K, now := fs', row := [], trip := 0, keep := 0 }) rfl rfl rfl rfl d7.calls (Int.le_refl _)
  have d9 := d8.turn (i := 9) (u := .bool true) (S' := { S with sure := K, now := fs', row := [], trip := 0, keep := 0, down := true }) rfl rfl rfl rfl d8.calls (Int.le_refl _)
  refine ⟨rfl, fs', _, d9, HG.out, ?_, fun q hq => ?_⟩
  · have F5 := FF.out.trans (Fr.of_below B4.out (fun _ => False)) (R := L.foot D) (fun _ _ h => h) (fun _ _ h => h.elim)
    have t : ∀ {a : World} (i : Nat) (u : Value), Fr w a (L.foot D) → Fr w (a.setCell ⟨D, i, none⟩ u) (L.foot D) := fun i u h => h.trans (fr_set _ D i u) (fun _ _ h => h) (fun q _ e => .inl e)
    exact t _ _ (t _ _ (t _ _ (t _ _ (t _ _ F5))))
  · have hs := FF.out.size
    rcases hq with hq | hq | hq | hq
    · exact .inl (.inl hq)
    · rcases hN2'.out q hq with hh | hh
      · exact .inl (.inr (.inl hh))
      · exact .inr hh
    · have := hA q hq
      right; omega
    · simp [nilS, Value.ownBlock] at hq
end Go.Proofs.YthnnenhpcceckaaGreat
/-
  A CALL IS COUNTED: count.
-/
namespace Go.Proofs.YthnnenhpcceckaaGreat
open Go.RowKit
/-- a disk behind a counted call, and what the call answers -/
def Counted (S S' : St) (e : Int) : Prop :=
  (S.trip ≠ 1 ∧ e = 0 ∧ S' = { S with calls := S.calls + 1, trip := if S.trip = 0 then 0 else S.trip - 1 }) ∨
  (S.trip = 1 ∧ e = 8 ∧ ∃ N, S' = { S with sure := keepF S.sure S.row (atLeast S.keep 0), now := N, row := [], calls := S.calls + 1, trip := 0, keep := 0, down := true } ∧ ∀ s, get N s = get (keepF S.sure S.row (atLeast S.keep 0)) s)
/-- what a call leaves behind that counts -/
def CountedW (w : World) (B D m : Nat) (S : St) (L : Lie) (e : Ending) (w' : World) : Prop :=
  ∃ S' L' x, e = .returned (.int .i64 x) ∧ DkL w' B D (m + S.row.length + 2) S' L' ∧ Counted S S' x ∧ Fr w w' (L.foot D) ∧ ∀ q, L'.foot D q → L.foot D q ∨ w.heap.size ≤ q
set_option maxHeartbeats 4000000 in
set_option maxRecDepth 100000 in
theorem count_any {w : World} {B D m : Nat} {S : St} {L : Lie} (h : DkL w B D m S L) (hd : S.down = false) (hr : mayAll S.sure S.row) (hm : m + S.row.length < 99998) (ht : S.trip ≤ 9223372036854775807) (hk : S.keep ≤ 9223372036854775807) :
    Calls Tryz.prog 19 #[.pointer (some ⟨D, 0, none⟩)] w (CountedW w B D m S L) := by
  have c6 : w.cell? ⟨D, 6, none⟩ = some (.int .i64 S.calls) := h.blk.cell 6
  have f6 := h.blk.free 6
  have c7 : w.cell? ⟨D, 7, none⟩ = some (.int .i64 S.trip) := h.blk.cell 7
  have f7 := h.blk.free 7
  have c8 : w.cell? ⟨D, 8, none⟩ = some (.int .i64 S.keep) := h.blk.cell 8
  have hc := h.calls
  have hlow := h.low
  have ht0 := h.trip
  have hl := h.blk.lt
  have hm1 : DkL w B D (m + 1) S L := h.mono (Nat.le_succ m) (by omega)
  have h1 := hm1.turn (i := 6) (u := .int .i64 (S.calls + 1)) (S' := { S with calls := S.calls + 1 }) rfl rfl rfl rfl ⟨by simp only; omega, by simp only; omega⟩ h.trip
  have T : ∀ t, 0 ≤ t → DkL ((w.setCell ⟨D, 6, none⟩ (.int .i64 (S.calls + 1))).setCell ⟨D, 7, none⟩ (.int .i64 t)) B D (m + 1) { S with calls := S.calls + 1, trip := t } L := fun t ht => h1.turn (i := 7) (u := .int .i64 t) (S' := { S with calls := S.calls + 1, trip := t }) rfl rfl rfl rfl h1.calls ht
  have FT : ∀ t, Fr w ((w.setCell ⟨D, 6, none⟩ (.int .i64 (S.calls + 1))).setCell ⟨D, 7, none⟩ (.int .i64 t)) (L.foot D) := fun t => (fr_set w D 6 _).trans (fr_set _ D 7 _) (fun _ _ e => .inl e) (fun _ _ e => .inl e)
  have hcw : IntKind.i64.wrap (S.calls + 1) = S.calls + 1 := IntWalk.i64_in _ (by omega)
  by_cases h0 : S.trip = 0
  · have FIN : Hid (CountedW w B D m S L (.returned (.int .i64 0)) (w.setCell ⟨D, 6, none⟩ (.int .i64 (S.calls + 1)))) := Lib.hid ⟨_, L, 0, rfl, h1.mono (by omega) (by omega), .inl ⟨by omega, rfl, by rw [if_pos h0]; cases S; simp only at h0; subst h0; rfl⟩, (fr_set w D 6 _).mono (fun _ _ e => .inl e), fun q hq => .inl hq⟩
    rw [h0] at c7
    clear h hm1 h1 T FT hr
    generalize S.calls = c at *
    go_enter Tryz.func19, Tryz.ntmps19
    go_wp2_with fail
    go_ret
    exact FIN.out
  · by_cases h2 : S.trip = 1
    · have h3 := T 0 (Int.le_refl _)
      have FL := Lib.hid (fail_up h3 hd hr (by simp only; omega) S.keep hk)
      have FIN : Hid (∀ e w', (e = Ending.returned (.tuple #[]) ∧ ∃ N L', DkL w' B D (m + 1 + S.row.length + 1) { S with sure := keepF S.sure S.row (atLeast S.keep 0), now := N, row := [], calls := S.calls + 1, trip := 0, keep := 0, down := true } L' ∧ (∀ s, get N s = get (keepF S.sure S.row (atLeast S.keep 0)) s) ∧ Fr ((w.setCell ⟨D, 6, none⟩ (.int .i64 (S.calls + 1))).setCell ⟨D, 7, none⟩ (.int .i64 0)) w' (L.foot D) ∧ ∀ q, L'.foot D q → L.foot D q ∨ ((w.setCell ⟨D, 6, none⟩ (.int .i64 (S.calls + 1))).setCell ⟨D, 7, none⟩ (.int .i64 0)).heap.size ≤ q) → e = Ending.returned (.tuple #[]) ∧ CountedW w B D m S L (.returned (.int .i64 8)) w') := Lib.hid (by
        rintro e w' ⟨he, N, L', d, hg, F, hN⟩
        refine ⟨he, _, L', 8, rfl, d.mono (by omega) (by omega), .inr ⟨h2, rfl, N, rfl, hg⟩, (FT 0).trans F (fun _ _ h => h) (fun _ _ h => h), fun q hq => ?_⟩
        rcases hN q hq with hh | hh
        · exact .inl hh
        · right; have := (FT 0).size; omega)
      rw [h2] at c7
      clear h hm1 h1 T FT hr h3
      generalize S.calls = c at *
      generalize S.keep = kk at *
      go_enter Tryz.func19, Tryz.ntmps19
      go_wp2_with fail
      refine FL.out.mono ?_
      intro e w' he
      obtain ⟨rfl, hcw⟩ := FIN.out e w' he
      have CW := Lib.hid hcw
      clear hcw FIN FL he
      go_wp2_with fail
      go_ret
      exact CW.out
    · have h3 := T (S.trip - 1) (by omega)
      have FIN : Hid (CountedW w B D m S L (.returned (.int .i64 0)) ((w.setCell ⟨D, 6, none⟩ (.int .i64 (S.calls + 1))).setCell ⟨D, 7, none⟩ (.int .i64 (S.trip - 1)))) := Lib.hid ⟨_, L, 0, rfl, h3.mono (by omega) (by omega), .inl ⟨h2, rfl, by rw [if_neg h0]⟩, FT _, fun q hq => .inl hq⟩
      have htw : IntKind.i64.wrap (S.trip - 1) = S.trip - 1 := IntWalk.i64_in _ (by omega)
      clear h hm1 h1 T FT hr h3
      generalize S.calls = c at *
      generalize S.trip = t at *
      go_enter Tryz.func19, Tryz.ntmps19
      go_wp2_with fail
      go_ret
      exact FIN.out
end Go.Proofs.YthnnenhpcceckaaGreat
/-
  ALL CHANGES ARE MADE SURE: Sync.
-/
namespace Go.Proofs.YthnnenhpcceckaaGreat
open Go.RowKit
theorem sync_nil (w : World) : Calls Tryz.prog 6 #[.pointer none] w fun e w' => e = .returned (.int .i64 1) ∧ w = w' := by
  go_enter Tryz.func6, Tryz.ntmps6
  go_wp2_with fail
  refine (ready_nil _).mono ?_
  rintro e w1 ⟨rfl, rfl⟩
  go_wp2_with fail
  first | go_ret | go_ret2
  exact ⟨rfl, rfl⟩
theorem sync_down {w : World} {B D m : Nat} {S : St} {L : Lie} (h : DkL w B D m S L) (hd : S.down = true) : Calls Tryz.prog 6 #[.pointer (some ⟨D, 0, none⟩)] w fun e w' => e = .returned (.int .i64 8) ∧ w = w' := by
  have R := Lib.hid (ready_any h.blk)
  unfold readyE at R
  rw [hd, if_pos rfl] at R
  clear h hd
  go_enter Tryz.func6, Tryz.ntmps6
  go_wp2_with fail
  refine R.out.mono ?_
  rintro e w1 ⟨rfl, rfl⟩
  go_wp2_with fail
  first | go_ret | go_ret2
  exact ⟨rfl, rfl⟩
/-- while a row is made sure -/
structure Syn (w wq : World) (B D m : Nat) (S : St) (L : Lie) (j : Nat) (V1 : Nm → Value) : Prop where
  d : DkL wq B D (m + j) { S with sure := doAll S.sure (S.row.take j) } { L with V1 := V1 }
  f : Fr w wq (fun q => q = D ∨ Foot L.M1 L.V1 q)
  n : ∀ q, Foot L.M1 V1 q → Foot L.M1 L.V1 q ∨ w.heap.size ≤ q
/-- what Sync leaves -/
def SyncW (w : World) (B D m : Nat) (S : St) (L : Lie) (e : Ending) (w' : World) : Prop :=
  ∃ S1 S' L' x, e = .returned (.int .i64 x) ∧ DkL w' B D (m + 2 * S.row.length + 2) S' L' ∧ Counted S S1 x ∧ S' = (if x = 0 then { S1 with sure := doAll S.sure S.row, row := [] } else S1) ∧ Fr w w' (L.foot D) ∧ ∀ q, L'.foot D q → L.foot D q ∨ w.heap.size ≤ q
theorem Syn.next {w wr w3 w4 : World} {B D m : Nat} {S : St} {L : Lie} {j : Nat} {V1 V' : Nm → Value} {c : Chg} (h : Syn w wr B D m S L j V1) (hs : doAll S.sure (S.row.take (j + 1)) = c.doF (doAll S.sure (S.row.take j))) (hb : Below wr.heap.size wr w3)
    (hd : DkL w4 B D (m + j + 1) { S with sure := c.doF (doAll S.sure (S.row.take j)) } { L with V1 := V' }) (F : Fr w3 w4 (fun q => q = D ∨ Foot L.M1 V1 q)) (hN : ∀ q, Foot L.M1 V' q → Foot L.M1 V1 q ∨ w3.heap.size ≤ q) : Syn w w4 B D m S L (j + 1) V' := by
  have h1 := h.f.size
  have h2 := hb.size
  refine ⟨by rw [hs]; exact hd, (h.f.trans (Fr.of_below hb (fun _ => False)) (fun _ _ h => h) (fun _ _ h => h.elim)).trans F (fun _ _ h => h) (fun q hq hh => ?_), fun q hq => ?_⟩
  · rcases hh with e | hh
    · exact .inl e
    · rcases h.n q hh with h' | h'
      · exact .inr h'
      · omega
  · rcases hN q hq with hh | hh
    · exact h.n q hh
    · right; omega
set_option maxHeartbeats 4000000 in
set_option maxRecDepth 100000 in
theorem sync_any {w : World} {B D m : Nat} {S : St} {L : Lie} (h : DkL w B D m S L) (hd : S.down = false) (hr : mayAll S.sure S.row) (hm : m + 2 * S.row.length < 99990) (ht : S.trip ≤ 9223372036854775807) (hk : S.keep ≤ 9223372036854775807) :
    Calls Tryz.prog 6 #[.pointer (some ⟨D, 0, none⟩)] w (SyncW w B D m S L) := by
  have R := Lib.hid (ready_any h.blk)
  unfold readyE at R
  rw [hd, if_neg (by decide)] at R
  have C := Lib.hid (count_any h hd hr (by omega) ht hk)
  clear h
  go_enter Tryz.func6, Tryz.ntmps6
  go_wp2_with fail
  refine R.out.mono ?_
  rintro e w1 ⟨rfl, rfl⟩
  go_wp2_with fail
  refine C.out.mono ?_
  rintro e w2 ⟨S1, L1, x, rfl, h2, hcnt, F2, hN2⟩
  rcases hcnt with ⟨hn1, rfl, hS1⟩ | ⟨h1, rfl, hS1⟩
  · have e1 : S1.row = S.row := by rw [hS1]
    have e2 : S1.sure = S.sure := by rw [hS1]
    have H2 := Lib.hid h2
    obtain ⟨av, cap, hv⟩ := row_form h2.row
    have c4 : w2.cell? ⟨D, 4, none⟩ = some (.slice av S.row.length cap) := by rw [← e1, ← hv]; exact h2.blk.cell 4
    have f4 := h2.blk.free 4
    have HV := Lib.hid hv
    have HS1 := Lib.hid hS1
    have E1 := Lib.hid e1
    have E2 := Lib.hid e2
    have HR := Lib.hid hr
    have F2' := Lib.hid F2
    have N2 := Lib.hid hN2
    clear h2 hv hS1 e1 e2 hr F2 hN2 R C
    have hn1' := hn1
    clear hn1
    have hn1 : S1.row.length = S.row.length := by rw [E1.out]
    generalize hn : S.row.length = n at *
    have HN := Lib.hid hn1
    have HN0 := Lib.hid hn
    clear hn hn1
    have hn9 : n ≤ 99999 := by omega
    go_wp2_with fail
    go_loopw [22] (fun i wq => ∃ (j : Nat) (V1 : Nm → Value), i = .int .i64 j ∧ j ≤ n ∧ Syn w2 wq B D (m + n + 2) S1 L1 j V1) (fun i _ => n - (intOf i).toNat)
    case atStart => exact ⟨0, L1.V1, rfl, Nat.zero_le _, ⟨H2.out, Fr.refl _ _, fun q hq => .inl hq⟩⟩
    case round =>
      obtain ⟨j, V1, rfl, hj, hS⟩ := hrel
      have HS := Lib.hid hS
      clear hS
      by_cases hjn : j < n
      · have hjl : j < S1.row.length := by rw [HN.out]; exact hjn
        have hrow := HS.out.d.row
        obtain ⟨g, hga, hcell⟩ : ∃ g, av = some ⟨g, 0, none⟩ ∧ wr.cell? ⟨g, j, none⟩ = some (.iface S1.row[j].ty S1.row[j].in_) := by
          have hrow2 : wr.ownsRow B 62 1 (.slice av n cap) n (S1.row.map Chg.val) := by
            have h9 := hrow
            simp only at h9
            rw [HV.out, HN.out] at h9
            exact h9
          exact row_cell hrow2 hjl
        subst hga
        clear hrow
        have hmay : S1.row[j].may (doAll S1.sure (S1.row.take j)) := mayAll_at (by rw [E2.out, E1.out]; exact HR.out) hjl
        have HSN := Lib.hid (doAll_snoc S1.sure S1.row hjl)
        have HDO := Lib.hid (DkL.doSure HS.out.d (by omega) (c := S1.row[j]) hmay)
        have hval := Chg.val_eq S1.row[j]
        rw [hval] at HDO
        clear hval hmay
        generalize S1.row[j] = c at *
        go_wp2_with fail
        refine HDO.out.mono ?_
        rintro e w4 ⟨rfl, V', d1, F, hN⟩
        have HS4 := Lib.hid (HS.out.next HSN.out (Below.refl _ _) d1 F hN)
        clear d1 F hN HDO HSN hcell
        go_wp2_with fail
        go_roundw
        case rel => exact ⟨j + 1, V', by go_num, by omega, HS4.out⟩
        case measure => simp [intOf]; omega
      · obtain rfl : j = n := by omega
        have d1 := HS.out.d
        have c4' : wr.cell? ⟨D, 4, none⟩ = some L1.v := d1.blk.cell 4
        have f4' := d1.blk.free 4
        have FIN : Hid (SyncW w B D m S L (.returned (.int .i64 0)) (wr.setCell ⟨D, 4, none⟩ (.slice none 0 0))) := Lib.hid (by
          have d2 := d1.bare
          have ht : S1.row.take j = S1.row := List.take_of_length_le (by rw [HN.out]; exact Nat.le_refl _)
          rw [ht] at d2
          have hl := HN0.out
          refine ⟨S1, { S1 with sure := doAll S1.sure S1.row, row := [] }, _, 0, rfl, d2.mono (by omega) (by omega), .inl ⟨hn1', rfl, HS1.out⟩, ?_, ?_, fun q hq => ?_⟩
          · rw [if_pos rfl, E1.out, E2.out]
          · refine (F2'.out.trans HS.out.f (R := L.foot D) (fun _ _ h => h) (fun q hq hh => ?_)).trans (fr_set _ D 4 _) (fun _ _ h => h) (fun _ _ e => .inl e)
            rcases hh with e | hh
            · exact .inl e
            · rcases N2.out q (.inr (.inl hh)) with h' | h'
              · exact h'
              · omega
          · have hs := F2'.out.size
            have hT : ∀ {q}, L1.foot D q → L.foot D q ∨ w.heap.size ≤ q := fun {q} hh => N2.out q hh
            rcases hq with hq | hq | hq | hq
            · exact .inl (.inl hq)
            · rcases HS.out.n q hq with hh | hh
              · exact hT (.inr (.inl hh))
              · right; omega
            · exact hT (.inr (.inr (.inl hq)))
            · simp [nilS, Value.ownBlock] at hq)
        clear d1
        go_wp2_with fail
        first | go_ret | go_ret2
        exact FIN.out
  · have FIN : Hid (SyncW w B D m S L (.returned (.int .i64 8)) w2) := Lib.hid ⟨S1, S1, L1, 8, rfl, h2.mono (by omega) (by omega), .inr ⟨h1, rfl, hS1⟩, by rw [if_neg (by decide)], F2, hN2⟩
    clear h2 F2 hN2 hS1 R C
    go_wp2_with fail
    first | go_ret | go_ret2
    exact FIN.out
end Go.Proofs.YthnnenhpcceckaaGreat
/-
  THE FILES BEHIND THE ROW ARE CHANGED; a change comes into the row.
-/
namespace Go.Proofs.YthnnenhpcceckaaGreat
open Go.RowKit
/-- the second of two files of a disk -/
theorem DkL.doNow {w : World} {B D m : Nat} {S : St} {L : Lie} (h : DkL w B D m S L) (hm : m < 100000) {c : Chg} (hc : c.may S.now) :
    Calls Tryz.prog 20 #[.pointer (some ⟨D, 2, none⟩), c.val] w fun e w' => e = .returned (.tuple #[]) ∧ ∃ V2, DkL w' B D (m + 1) { S with now := c.doF S.now } { L with V2 := V2 } ∧ Fr w w' (fun q => q = D ∨ Foot L.M2 L.V2 q) ∧ ∀ q, Foot L.M2 V2 q → Foot L.M2 L.V2 q ∨ w.heap.size ≤ q := by
  refine (do_any (o := 2) c h.f2 h.blk rfl rfl h.d2 (Nat.le_trans h.base (Nat.le_of_lt h.blk.lt)) h.g2 (by omega) (by omega) hc).mono fun e w' hd => ?_
  obtain ⟨he, V2, f2, b2, F, hN⟩ := hd
  have hfoot : ∀ q, L.foot D q → q < w.heap.size := fun q hq => (h.lt hq).2
  have h1P : ∀ q, Foot L.M1 L.V1 q → ¬ (q = D ∨ Foot L.M2 L.V2 q) := fun q hq hh => by
    rcases hh with rfl | hh
    · exact h.d1 hq
    · exact h.d12 q hq hh
  have hvP : ∀ q, L.v.ownBlock = some q → ¬ (q = D ∨ Foot L.M2 L.V2 q) := fun q hq hh => by
    obtain ⟨a1, _, a3⟩ := h.dv q hq
    rcases hh with rfl | hh
    · exact a1 rfl
    · exact a3 hh
  have hrow : w'.ownsRow B 62 1 L.v S.row.length (S.row.map Chg.val) := by
    have hr := h.row
    refine ⟨hr.1, ?_⟩
    rcases hr.2 with hn | ⟨g, cap, cur, e, hB, hh, rest⟩
    · exact .inl hn
    · refine .inr ⟨g, cap, cur, e, hB, ?_, rest⟩
      rw [F.block g (Array.getElem?_eq_some_iff.1 hh).1 (hvP g (by rw [e]; rfl))]
      exact hh
  refine ⟨he, V2, ⟨b2, (h.f1.fr F h1P).mono (Nat.le_succ m), f2, hrow, ⟨h.g1.uniq, Nat.le_succ_of_le h.g1.few, h.g1.small⟩, h.g2.doF hc, Nat.le_succ_of_le h.few, h.d1, fun hq => ?_, fun q hq hq2 => ?_, fun q hq => ?_, h.base, ⟨h.calls.1, by have := h.calls.2; simp only; omega⟩, h.trip, by omega⟩, F, hN⟩
  · rcases hN D hq with hh | hh
    · exact h.d2 hh
    · have := h.blk.lt; omega
  · rcases hN q hq2 with hh | hh
    · exact h.d12 q hq hh
    · have := hfoot q (.inr (.inl hq)); omega
  · obtain ⟨a1, a2, a3⟩ := h.dv q hq
    refine ⟨a1, a2, fun hh => ?_⟩
    rcases hN q hh with hh | hh
    · exact a3 hh
    · have := hfoot q (.inr (.inr (.inr hq))); omega
/-- a change comes into the row -/
theorem DkL.app {w w' : World} {B D m : Nat} {S : St} {L : Lie} {c : Chg} {v' : Value} (h : DkL w B D m S L) (hm : m < 100000) (ho : w'.ownsRow B 62 1 v' (S.row.length + 1) (S.row.map Chg.val ++ [c.val])) (hg : w.grownBy w' L.v.ownBlock)
    (hl : ∀ q, v'.ownBlock = some q → L.v.ownBlock = some q ∨ q = w.heap.size) : DkL (w'.setCell ⟨D, 4, none⟩ v') B D (m + 1) { S with row := S.row ++ [c] } { L with v := v' } := by
  have F0 := Fr.of_grown hg
  have hD0 : ¬ (some D = L.v.ownBlock) := fun e => (h.dv D e.symm).1 rfl
  have F := fr_set w' D 4 v'
  have hfoot : ∀ q, L.foot D q → q < w.heap.size := fun q hq => (h.lt hq).2
  have hb := (h.blk.fr F0 hD0).set 4 v'
  have h1 := (h.f1.fr F0 (fun q hq e => (h.dv q e.symm).2.1 hq)).fr F (fun q hq e => h.d1 (e ▸ hq))
  have h2 := (h.f2.fr F0 (fun q hq e => (h.dv q e.symm).2.2 hq)).fr F (fun q hq e => h.d2 (e ▸ hq))
  have hdv : ∀ q, v'.ownBlock = some q → q ≠ D ∧ ¬ Foot L.M1 L.V1 q ∧ ¬ Foot L.M2 L.V2 q := fun q hq => by
    rcases hl q hq with e | e
    · exact h.dv q e
    · refine ⟨fun e' => ?_, fun hh => ?_, fun hh => ?_⟩
      · have := hfoot D (.inl rfl); omega
      · have := hfoot q (.inr (.inl hh)); omega
      · have := hfoot q (.inr (.inr (.inl hh))); omega
  have hrow : (w'.setCell ⟨D, 4, none⟩ v').ownsRow B 62 1 v' (S.row ++ [c]).length ((S.row ++ [c]).map Chg.val) := by
    rw [List.length_append, List.map_append]
    exact World.ownsRow.kept ho (row := some D) ⟨F.os, F.tape, F.output, F.size, fun q hq hne => F.block q hq (fun e => hne (by rw [e]))⟩ (by
      cases hv : v'.ownBlock with
      | none => exact .inl rfl
      | some q => exact .inr (fun e => (hdv q hv).1 (Option.some.inj e)))
  exact ⟨hb, h1.mono (Nat.le_succ m), h2.mono (Nat.le_succ m), hrow, ⟨h.g1.uniq, Nat.le_succ_of_le h.g1.few, h.g1.small⟩, ⟨h.g2.uniq, Nat.le_succ_of_le h.g2.few, h.g2.small⟩, by rw [List.length_append]; have := h.few; simp; omega, h.d1, h.d2, h.d12, hdv, h.base, ⟨h.calls.1, by have := h.calls.2; simp only; omega⟩, h.trip, by omega⟩
theorem info62 : (Tryz.prog.info? 62).map (fun i => (i.zero, i.size, i.bytes)) = some (some .nilIface, 1, 16) := by kernel_rfl
/-- what a change in the row leaves -/
def NoteW (w : World) (B D m : Nat) (S : St) (L : Lie) (c : Chg) (e : Ending) (w' : World) : Prop :=
  ∃ S' L' x, e = .returned (.int .i64 x) ∧ DkL w' B D (m + S.row.length + 5) S' L' ∧ Counted { S with row := S.row ++ [c], now := c.doF S.now } S' x ∧ Fr w w' (L.foot D) ∧ ∀ q, L'.foot D q → L.foot D q ∨ w.heap.size ≤ q
set_option maxHeartbeats 4000000 in
set_option maxRecDepth 100000 in
theorem note_any {w : World} {B D m : Nat} {S : St} {L : Lie} (c : Chg) (h : DkL w B D m S L) (hd : S.down = false) (hr : mayAll S.sure (S.row ++ [c])) (hc : c.may S.now) (hm : m + S.row.length < 99990) (ht : S.trip ≤ 9223372036854775807) (hk : S.keep ≤ 9223372036854775807) :
    Calls Tryz.prog 17 #[.pointer (some ⟨D, 0, none⟩), .iface c.ty c.in_] w (NoteW w B D m S L c) := by
  obtain ⟨av, cap, hv⟩ := row_form h.row
  have c4 : w.cell? ⟨D, 4, none⟩ = some (.slice av S.row.length cap) := by rw [← hv]; exact h.blk.cell 4
  have f4 := h.blk.free 4
  have hl := h.blk.lt
  have hBD := h.base
  obtain ⟨w1, hw1, b1, W1c⟩ : ∃ w1, w1 = w.alloc (.cells #[.iface c.ty c.in_] 62) ∧ Below w.heap.size w w1 ∧ w1.cell? ⟨w.heap.size, 0, none⟩ = some (.iface c.ty c.in_) := ⟨_, rfl, (Below.refl _ _).alloc (Nat.le_refl _) _, (Blk.new w 62 #[.iface c.ty c.in_]).cell 0⟩
  have h1 := h.below b1
  have OWN : Hid (w1.ownsRow B 62 1 (.slice av S.row.length cap) S.row.length (S.row.map Chg.val)) := Lib.hid (by rw [← hv]; exact h1.row)
  have APP : Hid (∀ g cp w', w'.ownsRow B 62 1 (.slice (some ⟨g, 0, none⟩) (S.row.length + 1) cp) (S.row.length + 1) (S.row.map Chg.val ++ [.iface c.ty c.in_]) → w1.grownBy w' (Value.slice av S.row.length cap).ownBlock → ((Value.slice av S.row.length cap).ownBlock = some g ∨ g = w1.heap.size) →
      DkL (w'.setCell ⟨D, 4, none⟩ (.slice (some ⟨g, 0, none⟩) (S.row.length + 1) cp)) B D (m + 1) { S with row := S.row ++ [c] } { L with v := .slice (some ⟨g, 0, none⟩) (S.row.length + 1) cp } ∧ Fr w (w'.setCell ⟨D, 4, none⟩ (.slice (some ⟨g, 0, none⟩) (S.row.length + 1) cp)) (L.foot D) ∧ w'.frozen? ⟨D, 4, none⟩ = false ∧ (L.v.ownBlock = some g ∨ w.heap.size ≤ g) ∧ w'.cell? ⟨D, 4, none⟩ = some (.slice av S.row.length cap)) := Lib.hid (fun g cp w' ho hg hl' => by
    rw [← hv] at hg hl'
    rw [← Chg.val_eq] at ho
    have F0 := Fr.of_grown hg
    have hb := h1.blk.fr F0 (fun e => (h1.dv D e.symm).1 rfl)
    refine ⟨h1.app (by omega) ho hg (fun q hq => ?_), ?_, hb.free 4, ?_, by rw [← hv]; exact hb.cell 4⟩
    · have e : some g = some q := hq
      injection e with e
      subst e
      exact hl'
    · refine ((Fr.of_below b1 (fun _ => False)).trans F0 (R := L.foot D) (fun _ _ h => h.elim) (fun q _ e => .inr (.inr (.inr e.symm)))).trans (fr_set _ D 4 _) (fun _ _ h => h) (fun _ _ e => .inl e)
    · rcases hl' with e | e
      · exact .inl e
      · right; have := b1.size; omega)
  have W1 := Lib.hid hw1
  have H := Lib.hid h
  have HR := Lib.hid hr
  have HC := Lib.hid hc
  have HW := Lib.hid W1c
  have B1 := Lib.hid b1
  have hs1 := b1.size
  obtain ⟨i62, hi, hz0, hz1, hz2⟩ := info_parts info62
  have NEWS : ∀ j u, [Value.iface c.ty c.in_][j]? = some u → (w.alloc (.cells #[.iface c.ty c.in_] 62)).cell? ((⟨w.heap.size, 0, none⟩ : Addr).add j) = some u := World.news_of_block (cs := #[.iface c.ty c.in_]) (heap_alloc_new w _)
  clear h h1 hv W1c hr hc b1 hw1
  generalize hn : S.row.length = n at *
  go_enter Tryz.func17, Tryz.ntmps17
  go_wp2_with (at_builtin; rw [← W1.out]; refine wpList_append_lies _ rfl (.tmp 9) (.tmp 11) 52 rfl B 62 i62 .nilIface 1 16 Tryz.underlying52 hi hz0 hz1 hz2 rfl (by decide) (.slice av n cap) n (S.row.map Chg.val) rfl OWN.out ⟨w.heap.size, 0, none⟩ 1 1 [.iface c.ty c.in_] rfl rfl (by rw [W1.out]; exact NEWS) (by intro u hu; simp only [List.mem_singleton] at hu; subst hu; rfl) (by decide) (by unfold maxLen; omega) (by omega) (by omega) _ rfl ?_; intro g4 cp4 w4 ho4 hg4 hl4 _; obtain ⟨dk4, fr4, fz4, lb4, cl4⟩ := APP.out g4 cp4 w4 ho4 hg4 hl4; have DK4 := Lib.hid dk4; have FR4 := Lib.hid fr4; have LB4 := Lib.hid lb4; clear dk4 fr4 lb4 ho4 hg4 hl4 APP NEWS OWN W1 HW c4 f4)
  rw [← Chg.val_eq]
  refine (DK4.out.doNow (by omega) HC.out).mono ?_
  rintro e w6 ⟨rfl, V2, d6, F6, N6⟩
  have FR6 := Lib.hid (FR4.out.trans F6 (R := L.foot D) (fun _ _ h => h) (fun q _ hh => hh.elim .inl (fun h => .inr (.inr (.inl h)))))
  have hs4 := FR4.out.size
  have FT6 : Hid (∀ q, ({ M1 := L.M1, M2 := L.M2, V1 := L.V1, V2 := V2, v := Value.slice (some ⟨g4, 0, none⟩) (n + 1) cp4 } : Lie).foot D q → L.foot D q ∨ w.heap.size ≤ q) := Lib.hid (fun q hq => by
    rcases hq with hq | hq | hq | hq
    · exact .inl (.inl hq)
    · exact .inl (.inr (.inl hq))
    · rcases N6 q hq with hh | hh
      · exact .inl (.inr (.inr (.inl hh)))
      · right; omega
    · have e : some g4 = some q := hq
      injection e with e
      subst e
      rcases LB4.out with e | e
      · exact .inl (.inr (.inr (.inr e)))
      · exact .inr e)
  have CT := Lib.hid (count_any d6 hd HR.out (by simp only [List.length_append, List.length_singleton]; omega) ht hk)
  clear d6 F6 N6 DK4 FR4
  go_wp2_with fail
  refine CT.out.mono ?_
  rintro e w7 ⟨S', L', x, rfl, d7, hcnt, F7, N7⟩
  have FIN : Hid (NoteW w B D m S L c (.returned (.int .i64 x)) w7) := Lib.hid ⟨S', L', x, rfl, d7.mono (by simp only [List.length_append, List.length_singleton]; omega) (by omega), hcnt, FR6.out.trans F7 (fun _ _ h => h) (fun q hq hh => by
      rcases FT6.out q hh with h' | h'
      · exact h'
      · omega), fun q hq => by
      rcases N7 q hq with hh | hh
      · exact FT6.out q hh
      · right; have := FR6.out.size; omega⟩
  clear d7 hcnt F7 N7 CT
  go_wp2_with fail
  first | go_ret | go_ret2
  exact FIN.out
end Go.Proofs.YthnnenhpcceckaaGreat
/-
  A STRING IS COPIED: strings.Clone.
-/
namespace Go.Proofs.YthnnenhpcceckaaGreat
open Go.RowKit
set_option maxHeartbeats 4000000 in
set_option maxRecDepth 100000 in
theorem lite_clone (s : ByteArray) (w : World) (hlim : s.size ≤ 281474976710656) : Calls Tryz.prog 33 #[.string s] w fun e w' => e = .returned (.string s) ∧ Below w.heap.size w w' := by
  by_cases h0 : s.size = 0
  · have hs : s = ⟨#[]⟩ := ByteArray.ext (Array.eq_empty_of_size_eq_zero h0)
    subst hs
    go_enter Tryz.func33, Tryz.ntmps33
    go_wp2_with fail
    go_ret
    exact ⟨rfl, Below.refl _ _⟩
  · obtain ⟨i0, hi, hz0, hz1, hz2⟩ := info_parts info5
    have hinfo : (Tryz.prog.info? 5).map (·.size) = some 1 := by rw [hi]; simp [hz1]
    have hco : Tryz.prog.cellsOf 5 = 1 := by simp [Program.cellsOf, hi, hz1]
    obtain ⟨M, hM⟩ : ∃ M, M = madeCells (Value.int .u8 0).cells (((s.size : Nat) : Int).toNat * i0.size) := ⟨_, rfl⟩
    have hMs : M.size = s.size := by rw [hM, size_madeCells, hz1]; simp
    have hmk : ∀ W : World, (Instr.makeSlice 55 (.int .i64 (s.size : Int)) (.int .i64 (s.size : Int))).run Tryz.prog W = .ok (.slice (some ⟨W.heap.size, 0, none⟩) s.size s.size) (W.alloc (.cells M 5)) := fun W => by
      have h := run_make (P := Tryz.prog) W 55 5 i0 (.int .u8 0) Tryz.underlying55 hi hz0 .i64 .i64 (s.size : Int) (s.size : Int) (by omega) (by omega) (by rw [hz2]; omega) (by omega)
      rw [← hM] at h
      simpa using h
    clear hM
    have hcp := Lib.run_copy_row_string (P := Tryz.prog) (w.alloc (.cells M 5)) 55 9 3 5 w.heap.size 0 s.size s.size s M 5 Tryz.underlying55 hinfo (heap_alloc_new w _) (Nat.le_refl _) (by omega)
    obtain ⟨Y, hY⟩ : ∃ Y, Y = (M.toList.take 0 ++ Lib.byteCells s.data.toList ++ M.toList.drop (0 + s.size)).toArray := ⟨_, rfl⟩
    rw [← hY] at hcp
    have hYl : Y.toList = Lib.byteCells s.data.toList := by
      rw [hY, List.toList_toArray, List.take_zero, List.nil_append, List.drop_of_length_le (by rw [Array.length_toList]; omega), List.append_nil]
    have hYs : Y.size = s.size := by rw [← Array.length_toList, hYl, Lib.byteCells_length, ← Lib.size_eq]
    have hgY : ((w.alloc (.cells M 5)).setRow w.heap.size Y).heap[w.heap.size]? = some (.cells Y 5 (0, 0)) := setRow_heap _ _ M _ 5 (0, 0) (heap_alloc_new w _)
    have hne : s.data.toList ≠ [] := fun e => h0 (by rw [Lib.size_eq, e]; rfl)
    have hUS := Lib.run_unsafeString_row (P := Tryz.prog) ((w.alloc (.cells M 5)).setRow w.heap.size Y) 122 3 9 5 Tryz.underlying122 hco w.heap.size Y.size (by unfold World.shape?; rw [hgY]) s.data.toList hne (by rw [← Lib.size_eq]; omega) (by
      rw [← Lib.size_eq]; omega) (fun j x hx => Lib.cells_of_row hgY Y.size j _ (by rw [List.take_of_length_le (by rw [Array.length_toList]; exact Nat.le_refl _), hYl]; simp [Lib.byteCells, hx]))
    rw [← Lib.size_eq] at hUS
    clear hY
    go_enter Tryz.func33, Tryz.ntmps33
    go_wp2_with fail
    go_ret
    have hb1 : Below w.heap.size w (w.alloc (.cells M 5)) := (Below.refl _ w).alloc (Nat.le_refl _) _
    have hb2 : Below w.heap.size (w.alloc (.cells M 5)) ((w.alloc (.cells M 5)).setRow w.heap.size Y) := ⟨rfl, rfl, rfl, by simp, fun k hk => setRow_other _ _ _ _ (by omega)⟩
    exact ⟨rfl, Lib.below_freeze (hb1.trans hb2) (p := ⟨w.heap.size, 0, none⟩) (Nat.le_refl _) _⟩
theorem str_clone (s : ByteArray) (w : World) (hlim : s.size ≤ 281474976710656) : Calls Tryz.prog 18 #[.string s] w fun e w' => e = .returned (.string s) ∧ Below w.heap.size w w' := by
  go_enter Tryz.func18, Tryz.ntmps18
  go_wp2_with fail
  refine (lite_clone s w hlim).mono ?_
  rintro e w1 ⟨rfl, b1⟩
  go_wp2_with fail
  go_ret
  exact ⟨rfl, b1⟩
end Go.Proofs.YthnnenhpcceckaaGreat
/-
  THE WALK OF bits.text: the text of at most so many bytes at the front of bytes.
-/
namespace Go.Proofs.YthnnenhpcceckaaGreat.Bt
open Go.RowKit
theorem clone_any (s : ByteArray) (w : World) (hs : s.size ≤ 281474976710656) :
    Calls Tryz.prog 18 #[.string s] w fun e w' => e = .returned (.string s) ∧ Below w.heap.size w w' := by
  exact str_clone s w hs
theorem joinN_u64 (l : List UInt8) (h : l.length ≤ 8) : joinN l < 18446744073709551616 :=
  Nat.lt_of_lt_of_le (joinN_lt l) (Nat.le_trans (Nat.pow_le_pow_right (by decide) h) (by decide))
/-- what is read of a number lies in the bytes -/
theorem rdNum_facts (l : List UInt8) : (rdNum l).1 < 18446744073709551616 ∧ (rdNum l).2.1 ≤ l.length ∧ ((rdNum l).2.2 = 0 ∨ ((rdNum l).2.2 = 5 ∧ (rdNum l).1 = 0 ∧ (rdNum l).2.1 = 0) ∨ ((rdNum l).2.2 = 3 ∧ (rdNum l).1 = 0 ∧ (rdNum l).2.1 = 0)) := by
  match l with
  | [] => simp [rdNum]
  | b :: t =>
    have hb := b.toNat_lt
    simp only [rdNum]
    split
    · simp; omega
    · split
      · simp
      · split
        · simp
        · have hj := joinN_u64 (t.take (b.toNat - 247)) (by rw [List.length_take]; omega)
          simp only [true_or, and_true, List.length_cons]
          exact ⟨hj, by omega⟩
/-- the text of at most so many bytes at the front of s -/
def rdText (s : ByteArray) (most : Int) : ByteArray × Nat × Int :=
  if (rdNum s.data.toList).2.2 ≠ 0 then (⟨#[]⟩, 0, (rdNum s.data.toList).2.2)
  else if max most 0 < ((rdNum s.data.toList).1 : Int) then (⟨#[]⟩, 0, 2)
  else if s.size - (rdNum s.data.toList).2.1 < (rdNum s.data.toList).1 then (⟨#[]⟩, 0, 5)
  else (s.extract (rdNum s.data.toList).2.1 ((rdNum s.data.toList).2.1 + (rdNum s.data.toList).1), (rdNum s.data.toList).2.1 + (rdNum s.data.toList).1, 0)
/-- what rtxt says of a read number -/
theorem rdText_eq (s : ByteArray) (most : Int) {N K : Nat} {E : Int} (h : rdNum s.data.toList = (N, K, E)) :
    rdText s most = if E ≠ 0 then (⟨#[]⟩, 0, E) else if max most 0 < (N : Int) then (⟨#[]⟩, 0, 2) else if s.size - K < N then (⟨#[]⟩, 0, 5) else (s.extract K (K + N), K + N, 0) := by
  unfold rdText; rw [h]
def txtR (x : ByteArray × Nat × Int) : Value := .tuple #[.string x.1, .int .i64 x.2.1, .int .i64 x.2.2]
theorem ret_txt {x : ByteArray × Nat × Int} {a : ByteArray} {b c : Int} {k : Nat} (h : x = (a, k, c)) (hb : b = k) : Ending.returned (.tuple #[.string a, .int .i64 b, .int .i64 c]) = .returned (txtR x) := by
  subst h; subst hb; rfl
set_option maxRecDepth 10000 in
set_option maxHeartbeats 400000 in
theorem rdtext_any (s : ByteArray) (hs : s.size ≤ 281474976710656) (most : Int) (h0 : -9223372036854775808 ≤ most) (h1 : most ≤ 9223372036854775807) (w : World) :
    Calls Tryz.prog 92 #[.string s, .int .i64 most] w fun e w' => e = .returned (txtR (rdText s most)) ∧ Below w.heap.size w w' := by
  have hf := rdNum_facts s.data.toList
  rw [← Lib.size_eq] at hf
  have hnum := fun W => number_any s (by omega) W
  rcases hR : rdNum s.data.toList with ⟨N, K, E⟩
  have HT := Lib.hid (rdText_eq s most hR)
  rw [hR] at hf hnum
  clear hR
  simp only at hf hnum
  have Hnum := Lib.hid hnum
  clear hnum
  obtain ⟨f1, f2, f3⟩ := hf
  by_cases hE : E = 0
  · subst hE
    clear f3
    by_cases h2 : max most 0 < (N : Int)
    · have HT2 := HT.out
      rw [if_neg (by simp), if_pos h2] at HT2
      have HT3 := Lib.hid HT2
      clear HT2 HT
      go_enter Tryz.func92, Tryz.ntmps92
      go_wp2_with fail
      refine (Hnum.out _).mono ?_
      rintro e w1 ⟨rfl, rfl⟩
      go_wp2_with fail
      all_goals
        go_ret3
        exact ⟨ret_txt HT3.out rfl, Below.refl _ _⟩
    by_cases h3 : s.size - K < N
    · have HT2 := HT.out
      rw [if_neg (by simp), if_neg h2, if_pos h3] at HT2
      have HT3 := Lib.hid HT2
      clear HT2 HT
      go_enter Tryz.func92, Tryz.ntmps92
      go_wp2_with fail
      refine (Hnum.out _).mono ?_
      rintro e w1 ⟨rfl, rfl⟩
      go_wp2_with fail
      all_goals
        go_ret3
        exact ⟨ret_txt HT3.out rfl, Below.refl _ _⟩
    · have HT2 := HT.out
      rw [if_neg (by simp), if_neg h2, if_neg h3] at HT2
      have HT3 := Lib.hid HT2
      clear HT2 HT
      go_enter Tryz.func92, Tryz.ntmps92
      go_wp2_with fail
      refine (Hnum.out _).mono ?_
      rintro e w1 ⟨rfl, rfl⟩
      go_wp2_with fail
      all_goals
        refine (clone_any _ _ (by simp; omega)).mono ?_
        rintro e w2 ⟨rfl, hb⟩
        go_wp2_with fail
        go_ret3
        exact ⟨ret_txt HT3.out (by omega), hb⟩
  · have HT2 := HT.out
    rw [if_pos hE] at HT2
    have HT3 := Lib.hid HT2
    clear HT2 HT
    have hEb : (E != 0) = true := by simp [hE]
    go_enter Tryz.func92, Tryz.ntmps92
    go_wp2_with fail
    refine (Hnum.out _).mono ?_
    rintro e w1 ⟨rfl, rfl⟩
    go_wp2_with fail
    go_ret3
    exact ⟨ret_txt HT3.out rfl, Below.refl _ _⟩
end Go.Proofs.YthnnenhpcceckaaGreat.Bt
/-
  A TAPE IN MEMORY, AND THE WALKS OF At, Rest, Err, End.
-/
namespace Go.Proofs.YthnnenhpcceckaaGreat.Bt
open Go.RowKit
/-- the tape in block b: what is left, and the error -/
def TapeAt (w : World) (b : Nat) (s : ByteArray) (e : Int) : Prop := w.heap[b]? = some (.cells #[.string s, .int .i64 e] 146 (0, 0))
theorem TapeAt.lt {w : World} {b : Nat} {s : ByteArray} {e : Int} (h : TapeAt w b s e) : b < w.heap.size := by
  unfold TapeAt at h
  rcases Nat.lt_or_ge b w.heap.size with h' | h'
  · exact h'
  · rw [Array.getElem?_eq_none h'] at h; simp at h
theorem TapeAt.c0 {w : World} {b : Nat} {s : ByteArray} {e : Int} (h : TapeAt w b s e) : w.cell? ⟨b, 0, none⟩ = some (.string s) := by
  unfold TapeAt at h; simp [World.cell?, h]
theorem TapeAt.c1 {w : World} {b : Nat} {s : ByteArray} {e : Int} (h : TapeAt w b s e) : w.cell? ⟨b, 1, none⟩ = some (.int .i64 e) := by
  unfold TapeAt at h; simp [World.cell?, h]
theorem TapeAt.f {w : World} {b : Nat} {s : ByteArray} {e : Int} (h : TapeAt w b s e) (o : Nat) : w.frozen? ⟨b, o, none⟩ = false := by
  unfold TapeAt at h; simp [World.frozen?, h]
theorem TapeAt.below {w w' : World} {b B : Nat} {s : ByteArray} {e : Int} (h : TapeAt w b s e) (hb : Below B w w') (hB : b < B) : TapeAt w' b s e := by
  unfold TapeAt at *; rw [hb.block b hB]; exact h
theorem TapeAt.next {w w' : World} {b : Nat} {s : ByteArray} {e : Int} (h : TapeAt w b s e) (hb : Below w.heap.size w w') : TapeAt w' b s e := h.below hb h.lt
theorem TapeAt.set0 {w : World} {b : Nat} {s s' : ByteArray} {e : Int} (h : TapeAt w b s e) : TapeAt (w.setCell ⟨b, 0, none⟩ (.string s')) b s' e := by
  unfold TapeAt at *
  simp [World.setCell, Array.getElem?_modify, h]
theorem TapeAt.set1 {w : World} {b : Nat} {s : ByteArray} {e e' : Int} (h : TapeAt w b s e) : TapeAt (w.setCell ⟨b, 1, none⟩ (.int .i64 e')) b s e' := by
  unfold TapeAt at *
  simp [World.setCell, Array.getElem?_modify, h]
theorem grownBy_below {w w' : World} (h : Below w.heap.size w w') (r : Option Nat) : w.grownBy w' r := ⟨h.os, h.tape, h.output, h.size, fun k hk _ => h.block k hk⟩
theorem grownBy_set {w w' : World} (h : Below w.heap.size w w') (b o : Nat) (v : Value) : w.grownBy (w'.setCell ⟨b, o, none⟩ v) (some b) :=
  ⟨h.os, h.tape, h.output, by rw [World.size_setCell]; exact h.size, fun k hk hne => by rw [Below.heap_setCell _ _ _ _ (fun e => hne (by rw [e]))]; exact h.block k hk⟩
theorem err_any {w : World} {b : Nat} {s : ByteArray} {e : Int} (h : TapeAt w b s e) :
    Calls Tryz.prog 83 #[.pointer (some ⟨b, 0, none⟩)] w fun r w' => r = .returned (.int .i64 e) ∧ w = w' := by
  have h1 := h.c1
  go_enter Tryz.func83, Tryz.ntmps83
  go_wp2_with fail
  go_ret
  exact ⟨rfl, rfl⟩
theorem err_nil (w : World) : Calls Tryz.prog 83 #[.pointer none] w fun r w' => r = .returned (.int .i64 1) ∧ w = w' := by
  go_enter Tryz.func83, Tryz.ntmps83
  go_wp2_with fail
  go_ret
  exact ⟨rfl, rfl⟩
theorem end_nil (w : World) : Calls Tryz.prog 64 #[.pointer none] w fun r w' => r = .returned (.int .i64 1) ∧ w = w' := by
  go_enter Tryz.func64, Tryz.ntmps64
  go_wp2_with fail
  refine (err_nil _).mono ?_
  rintro e w1 ⟨rfl, rfl⟩
  go_wp2_with fail
  go_ret
  exact ⟨rfl, rfl⟩
/-- the error behind the end -/
def endE (s : ByteArray) (e : Int) : Int := if e ≠ 0 then e else if s.size = 0 then 0 else 3
theorem end_any {w : World} {b : Nat} {s : ByteArray} {e : Int} (h : TapeAt w b s e) :
    Calls Tryz.prog 64 #[.pointer (some ⟨b, 0, none⟩)] w fun r w' => r = .returned (.int .i64 (endE s e)) ∧ w = w' := by
  have h0 := h.c0
  by_cases he : e = 0
  · subst he
    by_cases hs : s.size = 0
    · have e0 : s = ⟨#[]⟩ := by
        apply ByteArray.ext
        exact Array.eq_empty_of_size_eq_zero hs
      subst e0
      go_enter Tryz.func64, Tryz.ntmps64
      go_wp2_with fail
      refine (err_any h).mono ?_
      rintro r w1 ⟨rfl, rfl⟩
      go_wp2_with fail
      go_ret
      exact ⟨rfl, rfl⟩
    · have hne : s.toList.isEmpty = false := by
        rw [Lib.toList_data, head_drop s (by omega)]; rfl
      have hne2 : (!s.toList.isEmpty) = true := by rw [hne]; rfl
      go_enter Tryz.func64, Tryz.ntmps64
      go_wp2_with fail
      refine (err_any h).mono ?_
      rintro r w1 ⟨rfl, rfl⟩
      go_wp2_with fail
      go_ret
      exact ⟨ret_i64 (by unfold endE; rw [if_neg (by simp), if_neg hs]), rfl⟩
  · have hEb : (e != 0) = true := by simp [he]
    go_enter Tryz.func64, Tryz.ntmps64
    go_wp2_with fail
    refine (err_any h).mono ?_
    rintro r w1 ⟨rfl, rfl⟩
    go_wp2_with fail
    go_ret
    exact ⟨ret_i64 (by unfold endE; rw [if_pos he]), rfl⟩
theorem at_any (s : ByteArray) (w : World) (hs : s.size ≤ 281474976710656) :
    Calls Tryz.prog 63 #[.string s] w fun r w' => ∃ b, r = .returned (.pointer (some ⟨b, 0, none⟩)) ∧ w.heap.size ≤ b ∧ TapeAt w' b s 0 ∧ Below w.heap.size w w' := by
  go_enter Tryz.func63, Tryz.ntmps63
  go_wp2_with fail
  refine (clone_any _ _ hs).mono ?_
  rintro r w1 ⟨rfl, hb⟩
  go_wp2_with fail
  go_ret
  refine ⟨w1.heap.size, rfl, hb.size, ?_, hb.alloc hb.size _⟩
  unfold TapeAt
  exact heap_alloc_new _ _
end Go.Proofs.YthnnenhpcceckaaGreat.Bt
