/-
  BOTH READERS ARE TOLD.
-/
import Derived.Test.YtbghjcfepjbppaaRlp
namespace Go.Proofs.Ytbghjcfepjbppaa
open Go.RowKit
theorem RwsD.bound {w : World} {V : Nat → Prop} {a : Option Addr} {LL : List (List Int)} (h : RwsD w V a LL) : RwsD w (fun q => V q ∧ q < w.heap.size) a LL := fun i hi => by
  obtain ⟨g, o, q, c, e, hl, hv, ck, nn⟩ := h i hi
  refine ⟨g, o, q, c, e, hl, ⟨hv, hl⟩, ck, nn.1, fun p e2 hx => ⟨nn.2 p e2 hx, ?_⟩⟩
  obtain ⟨y, l, hyl⟩ := List.exists_cons_of_ne_nil hx
  obtain ⟨g3, o3, e3, hg3, _⟩ := nn.1 0 (by rw [hyl]; simp)
  rw [e3] at e2; cases e2; exact hg3
theorem rws_D {w : World} {a : Option Addr} {LL : List (List Int)} (h : Bk.Rws w a LL) : RwsD w (fun q => q < w.heap.size) a LL := fun i hi => by
  obtain ⟨g, o, q, c, e, hl, ck, nn⟩ := h i hi
  refine ⟨g, o, q, c, e, hl, hl, ck, nn, fun p e2 hx => ?_⟩
  obtain ⟨y, l, hyl⟩ := List.exists_cons_of_ne_nil hx
  obtain ⟨g3, o3, e3, hg3, _⟩ := nn 0 (by rw [hyl]; simp)
  rw [e3] at e2; cases e2; exact hg3
/-- the document's reader is told: what its call leaves -/
def DocS (w : World) (V : Nat → Prop) (nodes : Int) (s' : RS) (e : Ending) (w' : World) : Prop :=
  ∃ an cn ag cg, e = .returned (docV nodes s'.to s'.at_ s'.gone (.slice an s'.LG.length cn) (.slice ag s'.LG.length cg)) ∧ NumsD w' (fun q => V q ∨ w.heap.size ≤ q) an (s'.LG.map (·.1)) ∧ RwsD w' (fun q => V q ∨ w.heap.size ≤ q) ag (s'.LG.map (·.2)) ∧ Below w.heap.size w w'
section
variable {W0 w : World} {t bx : Nat} {nodes : Int} {nm : ByteArray} {most : Int} {U V : Nat → Prop} {s s2 : RS} {an : Option Addr} {cn : Nat} {ag : Option Addr} {cg m : Nat}
theorem LRa.told (h : LRa W0 w t bx nodes nm most U V s s2 an cn ag cg) (ok : s2.Ok m) (hm : m ≤ 4900) {v2 : World} (b : Below w.heap.size w v2) {a2 : Option Addr} {LL : List (List Int)} (c2 : Nat) (n e : Int) (hR : RwsD v2 (fun q => (q < W0.heap.size ∨ w.heap.size ≤ q) ∧ q < v2.heap.size) a2 LL) (hl : LL.length ≤ 20) (hn : n ≤ 9223372036854775807) :
    Calls Try.prog 19 #[docV nodes s2.to s2.at_ s2.gone (.slice an s2.LG.length cn) (.slice ag s2.LG.length cg), .slice a2 LL.length c2, .int .i64 n, .int .i64 e] v2 (fun r w' => DocS w V nodes (s2.told nodes LL n e) r w') := by
  have D2 := h.dc.next b
  have hb := b.size
  have D3 : DocA v2 (fun q => V q ∨ (w.heap.size ≤ q ∧ q < v2.heap.size)) an ag s2.LG := ⟨D2.n.mono (fun _ hq => .inl hq), D2.g.mono (fun _ hq => .inl hq)⟩
  have R3 : RwsD v2 (fun q => V q ∨ (w.heap.size ≤ q ∧ q < v2.heap.size)) a2 LL := hR.mono (fun q hq => by
    rcases hq.1 with h1 | h1
    · exact .inl (h.va q h1)
    · exact .inr ⟨h1, hq.2⟩)
  refine (rtold_all c2 n e D3 ok hm (fun q hq => ?_) R3 hl hn).mono ?_
  · rcases hq with h1 | h1
    · have := (h.vl q h1).1; omega
    · exact h1.2
  · rintro r w' ⟨an', cn', ag', cg', rfl, n', g', b'⟩
    have up : ∀ q, ((V q ∨ (w.heap.size ≤ q ∧ q < v2.heap.size)) ∨ v2.heap.size ≤ q) → (V q ∨ w.heap.size ≤ q) := fun q hq => by
      rcases hq with (h1 | h1) | h1
      · exact .inl h1
      · exact .inr h1.1
      · right; omega
    exact ⟨an', cn', ag', cg', rfl, n'.mono up, g'.mono up, b.trans (b'.mono hb)⟩
/-- the answer is stored -/
theorem LRa.stored {s' : RS} {v3 : World} {an' : Option Addr} {cn' : Nat} {ag' : Option Addr} {cg' : Nat} (h : LRa W0 w t bx nodes nm most U V s s2 an cn ag cg) (b : Below w.heap.size w v3)
    (n' : NumsD v3 (fun q => V q ∨ w.heap.size ≤ q) an' (s'.LG.map (·.1))) (g' : RwsD v3 (fun q => V q ∨ w.heap.size ≤ q) ag' (s'.LG.map (·.2))) :
    ∃ w4, w4 = ((((((v3.setCell ⟨bx, 0, none⟩ (.int .i64 nodes)).setCell ⟨bx, 1, none⟩ (.int .i64 s'.to)).setCell ⟨bx, 2, none⟩ (.int .i64 s'.at_)).setCell ⟨bx, 3, none⟩ (.int .i64 s'.gone)).setCell ⟨bx, 4, none⟩ (.slice an' s'.LG.length cn')).setCell ⟨bx, 5, none⟩ (.slice ag' s'.LG.length cg')) ∧
      LR W0 t bx nodes nm most s s' w4 ∧ Fr v3 w4 (fun q => q = bx) := by
  have K := h.bk.below b
  unfold boxD at K
  have f : Fr v3 ((((((v3.setCell ⟨bx, 0, none⟩ (.int .i64 nodes)).setCell ⟨bx, 1, none⟩ (.int .i64 s'.to)).setCell ⟨bx, 2, none⟩ (.int .i64 s'.at_)).setCell ⟨bx, 3, none⟩ (.int .i64 s'.gone)).setCell ⟨bx, 4, none⟩ (.slice an' s'.LG.length cn')).setCell ⟨bx, 5, none⟩ (.slice ag' s'.LG.length cg')) (fun q => q = bx) :=
    (((((((Fr.refl v3 (fun q => q = bx)).set bx 0 _ (.inl rfl)).set bx 1 _ (.inl rfl)).set bx 2 _ (.inl rfl)).set bx 3 _ (.inl rfl)).set bx 4 _ (.inl rfl)).set bx 5 _ (.inl rfl))
  have k0 := K.set 0 (.int .i64 nodes)
  have k1 := k0.set 1 (.int .i64 s'.to)
  have k2 := k1.set 2 (.int .i64 s'.at_)
  have k3 := k2.set 3 (.int .i64 s'.gone)
  have k4 := k3.set 4 (.slice an' s'.LG.length cn')
  have k5 := k4.set 5 (.slice ag' s'.LG.length cg')
  exact ⟨_, rfl, h.doc b n' g' f k5, f⟩
end
/-- the program's reader is told -/
theorem LR.told {W0 w : World} {t bx : Nat} {nodes : Int} {nm : ByteArray} {most : Int} {s s2 : RS} {m : Nat} {a : Option Addr} {LL : List (List Int)} (c : Nat) (n e : Int) (h : LR W0 t bx nodes nm most s s2 w) (ok : s.Ok m) (hm : m ≤ 4900) (hN : nodes ≤ 7)
    (RW : Bk.Rws W0 a LL) (hS : Small LL) (hl : LL.length ≤ 20) (hn : n ≤ 9223372036854775807) :
    Calls Try.prog 21 #[.pointer (some ⟨t, 0, none⟩), .slice a LL.length c, .int .i64 n, .int .i64 e] w fun r w' => r = .returned (.tuple #[]) ∧ LR W0 t bx nodes nm most (s.told nodes LL n e) s2 w' := by
  obtain ⟨U, V, an, cn, ag, cg, h⟩ := h
  refine (told_all c n e h.rd ok hm hN (fun w' f => ?_) hS hl hn).mono fun r w' ⟨he, k⟩ => ⟨he, h.reader k⟩
  have b : Below W0.heap.size W0 w' := h.b.trans (f.below h.ul h.b.size)
  exact RW.next b
theorem LR.late {W0 w : World} {t bx : Nat} {nodes : Int} {nm : ByteArray} {most : Int} {s s2 : RS} {m : Nat} (h : LR W0 t bx nodes nm most s s2 w) (ok : s.Ok m) (hN : nodes ≤ 7) :
    Calls Try.prog 22 #[.pointer (some ⟨t, 0, none⟩)] w fun r w' => r = .returned (.tuple #[]) ∧ LR W0 t bx nodes nm most ⟨nextN s.to nodes, s.at_, s.gone, s.LG⟩ s2 w' := by
  obtain ⟨U, V, an, cn, ag, cg, h⟩ := h
  have h3 := ok.to
  exact (rlate_ch h.rd ⟨h3.1, by omega⟩ (by omega)).mono fun r w' ⟨he, k⟩ => ⟨he, h.reader k⟩
theorem told_late (nodes : Int) (s : RS) : s.told nodes [] (-1) 1 = ⟨nextN s.to nodes, s.at_, s.gone, s.LG⟩ := by
  unfold RS.told
  rw [if_neg (by omega), if_neg (by omega)]
end Go.Proofs.Ytbghjcfepjbppaa
