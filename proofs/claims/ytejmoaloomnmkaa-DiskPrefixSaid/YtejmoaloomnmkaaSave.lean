/-
  WHAT IS KEPT OF A ROW: save.
-/
import Derived.Test.YtejmoaloomnmkaaKeep
import Derived.Test.YtejmoaloomnmkaaSmall2
import Derived.Shelf.Abstract
namespace Go.Proofs.Ytejmoaloomnmkaa
open Go.RowKit
theorem meth_cost (c : Chg) (w : World) : Sem.run Try.prog (method 236 c.ty c.in_ "auspice/disk.cost") w = .ok (c.fn, c.in_) w := by
  cases c <;> kernel_rfl
theorem enters_cost (c : Chg) (args : Array Value) (w : World) : (callFunc c.fn args).run Try.prog w = .ok (.enter c.fn args) w := by
  cases c
  · exact enters_of Try.func89 (by kernel_rfl) rfl args w
  · exact enters_of Try.func90 (by kernel_rfl) rfl args w
  · exact enters_of Try.func91 (by kernel_rfl) rfl args w
  · exact enters_of Try.func92 (by kernel_rfl) rfl args w
/-- is it a Put? -/
def Chg.isPut : Chg → Bool
  | .put _ _ _ => true
  | _ => false
theorem assert_put (c : Chg) : ∃ (f : Nm) (a : Int) (s : ByteArray), (∀ w, Sem.run Try.prog (Instr.typeAssert (.iface c.ty c.in_) 62 60 true) w = .ok (.tuple #[.agg #[.string f, .int .i64 a, .string s], .bool c.isPut]) w) ∧ (c.isPut = true → ∃ n : Nat, a = n ∧ c = .put f n s) := by
  cases c with
  | put f a s => exact ⟨f, a, s, fun w => ta_60_60 w _, fun _ => ⟨a, rfl, rfl⟩⟩
  | trim f n => exact ⟨⟨#[]⟩, 0, ⟨#[]⟩, fun w => ta_84_60 w _, fun h => by cases h⟩
  | move f t => exact ⟨⟨#[]⟩, 0, ⟨#[]⟩, fun w => ta_86_60 w _, fun h => by cases h⟩
  | drop f => exact ⟨⟨#[]⟩, 0, ⟨#[]⟩, fun w => ta_89_60 w _, fun h => by cases h⟩
theorem doAll_snoc (fs : Fm) (r : List Chg) {j : Nat} (h : j < r.length) : doAll fs (r.take (j + 1)) = r[j].doF (doAll fs (r.take j)) := by
  unfold doAll
  rw [List.take_add_one, List.getElem?_eq_getElem h, List.foldl_append]
  rfl
theorem row_cell {w : World} {B : Nat} {a : Option Addr} {n cap : Nat} {r : List Chg} (h : w.ownsRow B 62 1 (.slice a n cap) n (r.map Chg.val)) {j : Nat} (hj : j < r.length) : ∃ g, a = some ⟨g, 0, none⟩ ∧ w.cell? ⟨g, j, none⟩ = some (.iface r[j].ty r[j].in_) := by
  have hl : r.length = n := by have := h.1; rw [List.length_map] at this; omega
  rcases h.2 with ⟨e, e0⟩ | ⟨g, cap', cur, e, _⟩
  · omega
  · injection e with e1 _ _
    subst e1
    refine ⟨g, rfl, ?_⟩
    rw [World.ownsRow.cellAt h j (by omega), List.getElem?_map, List.getElem?_eq_getElem hj]
    simp [Chg.val_eq]
/-- while a row is kept -/
structure Sav (w wq : World) (B D m : Nat) (S : St) (L : Lie) (j : Nat) (k k' : Int) (V1 : Nm → Value) : Prop where
  d : DkL wq B D (m + j) { S with sure := doAll S.sure (S.row.take j) } { L with V1 := V1 }
  f : Fr w wq (fun q => q = D ∨ Foot L.M1 L.V1 q)
  n : ∀ q, Foot L.M1 V1 q → Foot L.M1 L.V1 q ∨ w.heap.size ≤ q
  eq : keepF S.sure S.row k = keepF (doAll S.sure (S.row.take j)) (S.row.drop j) k'
  pos : 0 ≤ k' ∧ k' ≤ k
def Saved (w : World) (B D m : Nat) (S : St) (L : Lie) (k : Int) (e : Ending) (w' : World) : Prop :=
  e = .returned (.tuple #[]) ∧ ∃ V1, DkL w' B D (m + S.row.length + 1) { S with sure := keepF S.sure S.row k } { L with V1 := V1 } ∧ Fr w w' (fun q => q = D ∨ Foot L.M1 L.V1 q) ∧ ∀ q, Foot L.M1 V1 q → Foot L.M1 L.V1 q ∨ w.heap.size ≤ q
theorem keepF_cons (fs : Fm) (c : Chg) (r : List Chg) (k : Int) : keepF fs (c :: r) k = if k < c.cost then tornF fs c k else keepF (c.doF fs) r (k - c.cost) := rfl
theorem DkL.mono {w : World} {B D m m' : Nat} {S : St} {L : Lie} (h : DkL w B D m S L) (hm : m ≤ m') (hm' : m' ≤ 100000) : DkL w B D m' S L :=
  ⟨h.blk, h.f1.mono hm, h.f2.mono hm, h.row, ⟨h.g1.uniq, Nat.le_trans h.g1.few hm, h.g1.small⟩, ⟨h.g2.uniq, Nat.le_trans h.g2.few hm, h.g2.small⟩, Nat.le_trans h.few hm, h.d1, h.d2, h.d12, h.dv, h.base, ⟨h.calls.1, by have := h.calls.2; omega⟩, h.trip, hm'⟩
theorem Sav.join {w wr w3 w4 : World} {B D m : Nat} {S : St} {L : Lie} {j : Nat} {k k' : Int} {V1 V' : Nm → Value} (h : Sav w wr B D m S L j k k' V1) (hb : Below wr.heap.size wr w3) (F : Fr w3 w4 (fun q => q = D ∨ Foot L.M1 V1 q)) (hN : ∀ q, Foot L.M1 V' q → Foot L.M1 V1 q ∨ w3.heap.size ≤ q) :
    Fr w w4 (fun q => q = D ∨ Foot L.M1 L.V1 q) ∧ ∀ q, Foot L.M1 V' q → Foot L.M1 L.V1 q ∨ w.heap.size ≤ q := by
  have h1 := h.f.size
  have h2 := hb.size
  refine ⟨(h.f.trans (Fr.of_below hb (fun _ => False)) (fun _ _ h => h) (fun _ _ h => h.elim)).trans F (fun _ _ h => h) (fun q hq hh => ?_), fun q hq => ?_⟩
  · rcases hh with e | hh
    · exact .inl e
    · rcases h.n q hh with h' | h'
      · exact .inr h'
      · omega
  · rcases hN q hq with hh | hh
    · exact h.n q hh
    · right; omega
theorem Sav.next {w wr w3 w4 : World} {B D m : Nat} {S : St} {L : Lie} {j : Nat} {k k' : Int} {V1 V' : Nm → Value} {c : Chg} (h : Sav w wr B D m S L j k k' V1) (hs : doAll S.sure (S.row.take (j + 1)) = c.doF (doAll S.sure (S.row.take j))) (hdr : S.row.drop j = c :: S.row.drop (j + 1)) (hge : ¬ k' < c.cost) (hb : Below wr.heap.size wr w3)
    (hd : DkL w4 B D (m + j + 1) { S with sure := c.doF (doAll S.sure (S.row.take j)) } { L with V1 := V' }) (F : Fr w3 w4 (fun q => q = D ∨ Foot L.M1 V1 q)) (hN : ∀ q, Foot L.M1 V' q → Foot L.M1 V1 q ∨ w3.heap.size ≤ q) : Sav w w4 B D m S L (j + 1) k (k' - c.cost) V' := by
  obtain ⟨f4, n4⟩ := h.join hb F hN
  refine ⟨by rw [hs]; exact hd, f4, n4, ?_, by have := cost_pos c; have := h.pos; omega⟩
  rw [h.eq, hdr, hs, keepF_cons, if_neg hge]
theorem Sav.stop {w wr w3 : World} {B D m : Nat} {S : St} {L : Lie} {j : Nat} {k k' : Int} {V1 : Nm → Value} (h : Sav w wr B D m S L j k k' V1) (hj : j ≤ S.row.length) (hm : m + S.row.length < 99999) (he : keepF S.sure S.row k = doAll S.sure (S.row.take j)) (hb : Below wr.heap.size wr w3) : Saved w B D m S L k (.returned (.tuple #[])) w3 := by
  obtain ⟨f4, n4⟩ := h.join hb (Fr.refl w3 _) (fun q hq => .inl hq)
  refine ⟨rfl, V1, ?_, f4, n4⟩
  rw [he]
  exact (h.d.below hb).mono (by omega) (by omega)
theorem Sav.torn {w wr w3 w4 : World} {B D m : Nat} {S : St} {L : Lie} {j : Nat} {k k' : Int} {V1 V' : Nm → Value} {c : Chg} (h : Sav w wr B D m S L j k k' V1) (hj : j < S.row.length) (hm : m + S.row.length < 99999) (he : keepF S.sure S.row k = c.doF (doAll S.sure (S.row.take j))) (hb : Below wr.heap.size wr w3)
    (hd : DkL w4 B D (m + j + 1) { S with sure := c.doF (doAll S.sure (S.row.take j)) } { L with V1 := V' }) (F : Fr w3 w4 (fun q => q = D ∨ Foot L.M1 V1 q)) (hN : ∀ q, Foot L.M1 V' q → Foot L.M1 V1 q ∨ w3.heap.size ≤ q) : Saved w B D m S L k (.returned (.tuple #[])) w4 := by
  obtain ⟨f4, n4⟩ := h.join hb F hN
  refine ⟨rfl, V', ?_, f4, n4⟩
  rw [he]
  exact hd.mono (by omega) (by omega)
set_option maxHeartbeats 8000000 in
set_option maxRecDepth 100000 in
theorem save_any {w : World} {B D m : Nat} {S : St} {L : Lie} {k : Int} (h : DkL w B D m S L) (hk : 0 ≤ k) (hk2 : k ≤ 9223372036854775807) (hm : m + S.row.length < 99999) (hr : mayAll S.sure S.row) :
    Calls Try.prog 36 #[.pointer (some ⟨D, 0, none⟩), .int .i64 k] w (Saved w B D m S L k) := by
  have H := Lib.hid h
  have HR := Lib.hid hr
  obtain ⟨av, cap, hv⟩ := row_form h.row
  have c4 : w.cell? ⟨D, 4, none⟩ = some (.slice av S.row.length cap) := by rw [← hv]; exact h.blk.cell 4
  have HV := Lib.hid hv
  clear h hr hv
  generalize hn : S.row.length = n at *
  have HN := Lib.hid hn
  clear hn
  have hn9 : n ≤ 99999 := by omega
  go_enter Try.func36, Try.ntmps36
  go_wp2_with fail
  go_loopw [1, 13] (fun l i wq => ∃ (j : Nat) (k' : Int) (V1 : Nm → Value), i = .int .i64 j ∧ l = .int .i64 k' ∧ j ≤ n ∧ Sav w wq B D m S L j k k' V1) (fun _ i _ => n - (intOf i).toNat)
  case atStart => exact ⟨0, k, L.V1, rfl, rfl, Nat.zero_le _, H.out, Fr.refl _ _, fun q hq => .inl hq, rfl, hk, Int.le_refl _⟩
  case round =>
    obtain ⟨j, k', V1, rfl, rfl, hj, hS⟩ := hrel
    have HS := Lib.hid hS
    clear hS
    by_cases hjn : j < n
    · have hjl : j < S.row.length := by rw [HN.out]; exact hjn
      have hrow := HS.out.d.row
      obtain ⟨g, hga, hcell⟩ : ∃ g, av = some ⟨g, 0, none⟩ ∧ wr.cell? ⟨g, j, none⟩ = some (.iface S.row[j].ty S.row[j].in_) := by
        have hrow2 : wr.ownsRow B 62 1 (.slice av n cap) n (S.row.map Chg.val) := by
          rw [← HV.out, ← HN.out]; exact hrow
        exact row_cell hrow2 hjl
      subst hga
      clear hrow
      have hmay := mayAll_at HR.out hjl
      have hcm := may_cost hmay
      have hcp := cost_pos S.row[j]
      have hdrop : S.row.drop j = S.row[j] :: S.row.drop (j + 1) := List.drop_eq_getElem_cons hjl
      have HSN := Lib.hid (doAll_snoc S.sure S.row hjl)
      have HM := meth_cost S.row[j]
      have HE := enters_cost S.row[j]
      have HCO := Lib.hid (fun w => Chg.cost_any S.row[j] hcm w)
      obtain ⟨f0, a0, s0, HT, hput⟩ := assert_put S.row[j]
      have HP := Lib.hid hput
      have HDR := Lib.hid hdrop
      have HMAY := Lib.hid hmay
      have HDO := Lib.hid (fun w2 (hb : Below wr.heap.size wr w2) => DkL.doSure (HS.out.d.below hb) (by omega) (c := S.row[j]) hmay)
      have hval := Chg.val_eq S.row[j]
      rw [hval] at HDO
      have hkk := HS.out.pos
      have HKP := Lib.hid HS.out.eq
      clear hval hdrop hput hmay
      generalize S.row[j] = c at *
      by_cases hgt : k' < c.cost
      · have HGT := Lib.hid hgt
        have KEQ : Hid (keepF S.sure S.row k = tornF (doAll S.sure (S.row.take j)) c k') := Lib.hid (by
          rw [HKP.out, HDR.out, keepF_cons, if_pos hgt])
        have STOP : Hid (tornF (doAll S.sure (S.row.take j)) c k' = doAll S.sure (S.row.take j) → ∀ w3, Below wr.heap.size wr w3 → Saved w B D m S L k (.returned (.tuple #[])) w3) := Lib.hid (fun he w3 hb => HS.out.stop (by rw [HN.out]; exact hj) (by rw [HN.out]; exact hm) (KEQ.out.trans he) hb)
        have hct : k' < c.cost := hgt
        have HJ := Lib.hid hjl
        clear HSN HDR HKP hgt
        have hcb : c.isPut = true ∨ c.isPut = false := by cases c.isPut <;> simp
        rcases hcb with hb | hb
        · obtain ⟨n0, rfl, hc0⟩ := HP.out hb
          rw [hb] at HT
          by_cases hk0 : 0 < k'
          · have hcc : c.cost = 1 + s0.size := by rw [hc0]; rfl
            have hks : (k' - 1).toNat ≤ s0.size := by omega
            have TORN : Hid (tornF (doAll S.sure (S.row.take j)) c k' = (Chg.put f0 n0 (s0.extract 0 (k' - 1).toNat)).doF (doAll S.sure (S.row.take j))) := Lib.hid (by rw [hc0]; unfold tornF; simp only; rw [if_pos hk0])
            have hsz : (s0.extract 0 (k' - 1).toNat).size ≤ s0.size := by
              have h1 : (bl (s0.extract 0 (k' - 1).toNat)).length ≤ (bl s0).length := by
                unfold bl
                rw [Lib.extract_data, List.length_take, List.length_drop]
                omega
              rw [bl_len, bl_len] at h1
              exact h1
            have hmay2 : (Chg.put f0 n0 (s0.extract 0 (k' - 1).toNat)).may (doAll S.sure (S.row.take j)) := by
              have := HMAY.out
              rw [hc0] at this
              exact ⟨this.1, this.2.1, by have := this.2.2; omega⟩
            have LAST : Hid (∀ w3, Below wr.heap.size wr w3 → Calls Try.prog 31 #[.pointer (some ⟨D, 0, none⟩), .iface 60 (.agg #[.string f0, .int .i64 n0, .string (s0.extract 0 (k' - 1).toNat)])] w3 (fun e w4 => e = .returned (.tuple #[]) ∧ Saved w B D m S L k (.returned (.tuple #[])) w4 ∧ ∀ q, wr.heap.size ≤ q → q < w3.heap.size → w4.heap[q]? = w3.heap[q]?)) := Lib.hid (fun w3 hb3 => (DkL.doSure (HS.out.d.below hb3) (by omega) (c := Chg.put f0 n0 (s0.extract 0 (k' - 1).toNat)) hmay2).mono fun e w4 hd => by
              obtain ⟨rfl, V', d1, F, hN⟩ := hd
              refine ⟨rfl, HS.out.torn HJ.out (by rw [HN.out]; exact hm) (KEQ.out.trans TORN.out) hb3 d1 F hN, fun q hq1 hq2 => F.block q hq2 ?_⟩
              rintro (e | e)
              · have := HS.out.d.blk.lt; omega
              · have := (HS.out.d.f1.lt e).2; omega)
            have TRN := Lib.hid (fun w3 => torn_any f0 n0 (k' - 1).toNat s0 hks w3)
            have hkn : ((k' - 1).toNat : Int) = k' - 1 := by omega
            rw [hkn] at TRN
            unfold Chg.in_ at TRN
            simp only at TRN
            have hwk : IntKind.i64.wrap (k' - 1) = k' - 1 := IntWalk.i64_in _ (by omega)
            have HWK := Lib.hid hwk
            clear hwk
            clear HDO HP HMAY hmay2 hsz TORN STOP hcc hc0 hkn hb
            generalize c.cost = z at *
            generalize s0.extract 0 (k' - 1).toNat = s1 at *
            go_wp2_with fail
            refine (HCO.out _).mono ?_
            rintro e w2 ⟨rfl, b2⟩
            have B2 := Lib.hid b2
            clear b2 hcell
            obtain ⟨w3, hw3, hb3, Y3⟩ : ∃ w3, w3 = w2.alloc (Obj.cells #[.string f0, .int .i64 n0, .string s0] 60) ∧ Below w2.heap.size w2 w3 ∧ Blk w3 w2.heap.size 60 #[.string f0, .int .i64 n0, .string s0] := ⟨_, rfl, (Below.refl _ _).alloc (Nat.le_refl _) _, Blk.new _ _ _⟩
            have W3 := Lib.hid hw3
            have hYl := Y3.lt
            have BD := Lib.hid ((B2.out.trans (hb3.mono B2.out.size)).trans ((Below.refl w3.heap.size w3).drew.mono (Nat.le_trans B2.out.size hb3.size)))
            have y0 : w3.cell? ⟨w2.heap.size, 0, none⟩ = some (.string f0) := Y3.cell 0
            have y1 : w3.cell? ⟨w2.heap.size, 1, none⟩ = some (.int .i64 n0) := Y3.cell 1
            have y2 : w3.cell? ⟨w2.heap.size, 2, none⟩ = some (.string s0) := Y3.cell 2
            have L2 : Hid (∀ w4, Below w3.drew.heap.size w3.drew w4 → w4.cell? ⟨w2.heap.size, 0, none⟩ = some (.string f0) ∧ w4.cell? ⟨w2.heap.size, 1, none⟩ = some (.int .i64 n0) ∧ w4.cell? ⟨w2.heap.size, 2, none⟩ = some (.string s0) ∧ Calls Try.prog 31 #[.pointer (some ⟨D, 0, none⟩), .iface 60 (.agg #[.string f0, .int .i64 n0, .string s1])] w4 (fun e w5 => e = .returned (.tuple #[]) ∧ Saved w B D m S L k (.returned (.tuple #[])) w5 ∧ w5.cell? ⟨w2.heap.size, 0, none⟩ = some (.string f0) ∧ w5.cell? ⟨w2.heap.size, 1, none⟩ = some (.int .i64 n0) ∧ w5.cell? ⟨w2.heap.size, 2, none⟩ = some (.string s0))) := Lib.hid (fun w4 hb4 => by
              have hYd : Blk w3.drew w2.heap.size 60 #[.string f0, .int .i64 n0, .string s0] := Y3
              have hY4 := hYd.below hb4 hYl
              refine ⟨hY4.cell 0, hY4.cell 1, hY4.cell 2, (LAST.out w4 (BD.out.trans (hb4.mono BD.out.size))).mono fun e w5 hl => ?_⟩
              obtain ⟨he, hsv, hq⟩ := hl
              have hY5 : Blk w5 w2.heap.size 60 #[.string f0, .int .i64 n0, .string s0] := (hq _ B2.out.size hY4.lt).trans hY4
              exact ⟨he, hsv, hY5.cell 0, hY5.cell 1, hY5.cell 2⟩)
            clear hw3 hb3 Y3 LAST
            go_wp2_with fail
            rw [← W3.out]
            have hwk := HWK.out
            go_region_held3 (fun w' => w'.cell? ⟨w2.heap.size, 0, none⟩ = some (.string f0) ∧ w'.cell? ⟨w2.heap.size, 1, none⟩ = some (.int .i64 n0) ∧ w'.cell? ⟨w2.heap.size, 2, none⟩ = some (.string s0))
              (first | assumption | exact ⟨‹_›, ‹_›, ‹_›⟩ | trivial)
              (first | (go_at_call 48; refine (TRN.out _).mono ?_; rintro r0 w4 ⟨rfl, b4⟩; obtain ⟨x0, x1, x2, CL⟩ := L2.out w4 b4; have CLh := Lib.hid CL; clear CL) | (go_at_call 31; refine CLh.out.mono ?_; rintro r0 w5 ⟨rfl, hsv, v0, v1, v2⟩; have SV := Lib.hid hsv; clear hsv))
            clear y0 y1 y2 x0 x1 x2 v0 v1 v2 L2 CLh TRN
            go_wp2_with fail
            (try simp only [Exit.inBlock, Exit.then])
            refine bodyPost_ret (results_none rfl _ _ _) rfl ?_
            exact SV.out
          · have BASE : Hid (tornF (doAll S.sure (S.row.take j)) c k' = doAll S.sure (S.row.take j)) := Lib.hid (by rw [hc0]; unfold tornF; simp only; rw [if_neg hk0])
            have hk00 : k' = 0 := by omega
            subst hk00
            clear HDO HP HMAY hc0 hb
            generalize c.cost = z at *
            go_wp2_with fail
            refine (HCO.out _).mono ?_
            rintro e w2 ⟨rfl, b2⟩
            have B2 := Lib.hid b2
            clear b2 hcell
            have STP := Lib.hid (STOP.out BASE.out)
            clear STOP BASE
            go_wp2_with fail
            refine bodyPost_ret (results_none rfl _ _ _) rfl ?_
            exact STP.out _ (B2.out.trans (((Below.refl _ _).alloc (Nat.le_refl _) _).mono B2.out.size))
        · have BASE : Hid (tornF (doAll S.sure (S.row.take j)) c k' = doAll S.sure (S.row.take j)) := Lib.hid (by cases c <;> first | (cases hb; done) | rfl)
          have STP := Lib.hid (STOP.out BASE.out)
          rw [hb] at HT
          clear HDO HP HMAY hb BASE STOP
          generalize c.cost = z at *
          go_wp2_with fail
          refine (HCO.out _).mono ?_
          rintro e w2 ⟨rfl, b2⟩
          have B2 := Lib.hid b2
          clear b2 hcell
          go_wp2_with fail
          refine bodyPost_ret (results_none rfl _ _ _) rfl ?_
          exact STP.out _ (B2.out.trans (((Below.refl _ _).alloc (Nat.le_refl _) _).mono B2.out.size))
      · have HGE := Lib.hid hgt
        have NXT : Hid (∀ w3, Below wr.heap.size wr w3 → Calls Try.prog 31 #[.pointer (some ⟨D, 0, none⟩), .iface c.ty c.in_] w3 fun e w4 => e = .returned (.tuple #[]) ∧ ∃ V', Sav w w4 B D m S L (j + 1) k (k' - c.cost) V') := Lib.hid (fun w3 hb => (HDO.out w3 hb).mono fun e w4 hd => by
          obtain ⟨he, V', d1, F, hN⟩ := hd
          exact ⟨he, V', HS.out.next HSN.out HDR.out HGE.out hb d1 F hN⟩)
        have hct : c.cost ≤ k' := by omega
        clear HDO HT HP HMAY HSN HDR HKP
        generalize c.cost = z at *
        go_wp2_with fail
        refine (HCO.out _).mono ?_
        rintro e w2 ⟨rfl, b2⟩
        have B2 := Lib.hid b2
        clear b2
        go_wp2_with fail
        refine (HCO.out _).mono ?_
        rintro e w3 ⟨rfl, b3⟩
        have NX := Lib.hid (NXT.out w3 (B2.out.trans (b3.mono B2.out.size)))
        clear b3 NXT hcell
        go_wp2_with fail
        refine NX.out.mono ?_
        rintro e w4 ⟨rfl, V', hs4⟩
        have HS4 := Lib.hid hs4
        clear hs4 NX
        go_wp2_with fail
        go_roundw
        case rel => exact ⟨j + 1, k' - z, V', by go_num, rfl, by omega, HS4.out⟩
        case measure => simp [intOf]; omega
    · obtain rfl : j = n := by omega
      have FIN : Hid (Saved w B D m S L k (.returned (.tuple #[])) wr) := Lib.hid (HS.out.stop (by rw [HN.out]; exact Nat.le_refl _) (by rw [HN.out]; exact hm) (by
        rw [HS.out.eq, List.drop_eq_nil_of_le (by rw [HN.out]; exact Nat.le_refl _)]
        rfl) (Below.refl _ _))
      go_wp2_with fail
      go_end0
      exact FIN.out
end Go.Proofs.Ytejmoaloomnmkaa
