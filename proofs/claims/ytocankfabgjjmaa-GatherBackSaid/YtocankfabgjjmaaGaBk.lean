/-
  Two rows of frames of two places, partly fed: what the next frame of either does.
  Conditions: none.
-/
import Derived.Test.YtocankfabgjjmaaGaX
import Derived.Test.YtocankfabgjjmaaGaL
import Derived.Test.YtocankfabgjjmaaFrE
namespace Go.Proofs.Ytocankfabgjjmaa
open Go.RowKit
set_option linter.unusedVariables false
set_option linter.unusedSimpArgs false

theorem cutP_most {n : Nat} (hn : 1 ≤ n) : ∀ (m : Nat) (l : List UInt8), l.length ≤ m → (cutP n l).length ≤ l.length + 1
  | 0, l, h => by rw [cutP_end (by omega)]; simp
  | m + 1, l, h => by
    by_cases h2 : l.length ≤ n
    · rw [cutP_end h2]; simp
    · rw [cutP_more hn (by omega)]
      have := cutP_most hn m (l.drop n) (by rw [List.length_drop]; omega)
      rw [List.length_drop] at this
      simp only [List.length_cons]
      omega
theorem framesD_most {n k ch : Nat} (hn : 1 ≤ n) : ∀ (l : List Sg) (a : Bool), (framesD n k ch a l).length ≤ sumS l + l.length
  | [], _ => by simp [framesD]
  | s :: r, a => by
    have h1 := framesD_most (k := k) (ch := ch) hn r false
    have h2 := cutP_most hn _ (sb s.p) (Nat.le_refl _)
    rw [sb_length] at h2
    simp only [framesD, segF, List.length_append, pieceF_len, sumS, List.length_cons]
    omega

/-- Both rows, partly fed. -/
def BkS (w6 : World) (gb : Nat) (FA FB : List Fr) (l1 l2 : List Sg) (pa pb : Plc) (a b : Nat) (wr : World) : Prop :=
  Below w6.heap.size w6 wr ∧ ∃ M F oa ob, GW wr w6.heap.size gb (some M) F ∧ Two pa pb oa ob M ∧ (a < FA.length → runAll oa (FA.drop a) l1) ∧ (a = FA.length → oa = none) ∧ (b < FB.length → runAll ob (FB.drop b) l2) ∧ (b = FB.length → ob = none)
theorem BkS.keep {w6 wr w' : World} {gb : Nat} {FA FB : List Fr} {l1 l2 : List Sg} {pa pb : Plc} {a b : Nat} (h : BkS w6 gb FA FB l1 l2 pa pb a b wr) (hb : Below wr.heap.size wr w') : BkS w6 gb FA FB l1 l2 pa pb a b w' := by
  obtain ⟨h1, M, F, oa, ob, h2, h3⟩ := h
  exact ⟨h1.trans (hb.mono h1.size), M, F, oa, ob, h2.keep fun k hk => hb.block k (h2.foot k hk).2, h3⟩
theorem BkS.swap {w6 wr : World} {gb : Nat} {FA FB : List Fr} {l1 l2 : List Sg} {pa pb : Plc} {a b : Nat} (h : BkS w6 gb FA FB l1 l2 pa pb a b wr) : BkS w6 gb FB FA l2 l1 pb pa b a wr := by
  obtain ⟨h1, M, F, oa, ob, h2, h3, h4, h5, h6, h7⟩ := h
  exact ⟨h1, M, F, ob, oa, h2, h3.swap, h6, h7, h4, h5⟩
/-- What Feed of a row's next frame tells. -/
def FedSaid (lo : Nat) (V : World) (ch k : Nat) (l : List Sg) (last : Bool) (R : World → Prop) (e : Ending) (w' : World) : Prop :=
  ∃ (v : Value) (rc rk : Nat) (rl : List Sg), e = .returned (.tuple #[.agg #[.int .u16 rc, .int .u8 rk, v], .bool last, .int .i64 0]) ∧ OwnG sgC 46 w' V.heap.size v rl ∧ (last = true → rc = ch ∧ rk = k ∧ rl = l) ∧ (last = false → rc = 0 ∧ rk = 0 ∧ rl = []) ∧ R w' ∧ V.heap.size ≤ w'.heap.size ∧ ∀ j, lo ≤ j → j < V.heap.size → w'.heap[j]? = V.heap[j]?
theorem BkS.feed {w6 V0 V : World} {gb ch1 k1 : Nat} {FA FB : List Fr} {l1 l2 : List Sg} {pb : Plc} {a b : Nat} (h0 : BkS w6 gb FA FB l1 l2 (ch1, k1) pb a b V0) (hb0 : Below V0.heap.size V0 V) (hn : (ch1, k1) ≠ pb) (hFA : ∀ f ∈ FA, f.ok ∧ f.k = k1 ∧ f.ch = ch1) (ha : a < FA.length) :
    Calls Try.prog 7 #[.pointer (some ⟨gb, 0, none⟩), .agg FA[a].vs.toArray] V (FedSaid V0.heap.size V ch1 k1 l1 (decide (a + 1 = FA.length)) (BkS w6 gb FA FB l1 l2 (ch1, k1) pb (a + 1) b)) := by
  obtain ⟨h1, M, F, oa, ob, h2, h3, h4, h5, h6, h7⟩ := h0
  have hft := h2.foot
  have h1 := h1.trans (hb0.mono h1.size)
  have h2 := h2.keep fun k hk => hb0.block k (hft k hk).2
  obtain ⟨hok, hk, hch⟩ := hFA _ (List.getElem_mem ha)
  have hr := h4 ha
  rw [List.drop_eq_getElem_cons ha] at hr
  obtain ⟨hlast, hmore⟩ := run_feed2 h3 hn hch hk hr
  refine (feed_any FA[a] V w6.heap.size gb (some M) F hok h1.size h2).mono ?_
  by_cases hx : a + 1 = FA.length
  · obtain ⟨M', e1, hT⟩ := hlast (by rw [List.drop_eq_nil_iff]; omega)
    rw [e1]
    rintro e w' ⟨v, F', rfl, ho, hg, hF, hm⟩
    refine ⟨v, ch1, k1, l1, ?_, ho, fun _ => ⟨rfl, rfl, rfl⟩, fun h => absurd h (by simp [hx]), ⟨hm.below h1 (fun k hk => (h2.foot k hk).1) h1.size, M', F', none, ob, hg, hT, fun h => by omega, fun _ => rfl, h6, h7⟩, hm.size, fun j hj hl => hm.block j hl fun e => by have := (hft j e).2; omega⟩
    simp [ansV, hx]
  · obtain ⟨p, M', e1, hrn, hT⟩ := hmore (by intro e; rw [List.drop_eq_nil_iff] at e; omega)
    rw [e1]
    rintro e w' ⟨v, F', rfl, ho, hg, hF, hm⟩
    refine ⟨v, 0, 0, [], ?_, ho, fun h => absurd h (by simp [hx]), fun _ => ⟨rfl, rfl, rfl⟩, ⟨hm.below h1 (fun k hk => (h2.foot k hk).1) h1.size, M', F', some p, ob, hg, hT, fun _ => hrn, fun h => absurd h hx, h6, h7⟩, hm.size, fun j hj hl => hm.block j hl fun e => by have := (hft j e).2; omega⟩
    simp [ansV, ans0, hx]
theorem FedSaid.swap {w6 V w' : World} {lo gb ch k : Nat} {FA FB : List Fr} {l1 l2 l : List Sg} {pa pb : Plc} {a b : Nat} {last : Bool} {e : Ending} (h : FedSaid lo V ch k l last (BkS w6 gb FA FB l1 l2 pa pb a b) e w') : FedSaid lo V ch k l last (BkS w6 gb FB FA l2 l1 pb pa b a) e w' := by
  obtain ⟨v, rc, rk, rl, h1, h2, h3, h4, h5, h6⟩ := h
  exact ⟨v, rc, rk, rl, h1, h2, h3, h4, h5.swap, h6⟩

/-- Both boxes as they are stored. -/
def pickW (V1 : World) (b ch k : Nat) (v : Value) (f : Fr) : World :=
  ((((((((((V1.setCell ⟨b, 0, none⟩ (.int .u16 ch)).setCell ⟨b, 1, none⟩ (.int .u8 k)).setCell ⟨b, 2, none⟩ v).setCell ⟨b + 1, 0, none⟩ (.bool f.a)).setCell ⟨b + 1, 1, none⟩ (.bool f.b)).setCell ⟨b + 1, 2, none⟩ (.bool f.c)).setCell ⟨b + 1, 3, none⟩ (.bool f.d)).setCell ⟨b + 1, 4, none⟩ (.int .u8 f.t)).setCell ⟨b + 1, 5, none⟩ (.int .u8 f.k)).setCell ⟨b + 1, 6, none⟩ (.int .u16 f.ch)).setCell ⟨b + 1, 7, none⟩ (.string f.p)
theorem setA {W : World} {b ch k : Nat} {v : Value} (h : BoxA W b ch k v) (ch' k' : Nat) (v' : Value) : BoxA (((W.setCell ⟨b, 0, none⟩ (.int .u16 ch')).setCell ⟨b, 1, none⟩ (.int .u8 k')).setCell ⟨b, 2, none⟩ v') b ch' k' v' :=
  heap_setCell_same _ b 2 _ 34 v' (heap_setCell_same _ b 1 _ 34 (.int .u8 k') (heap_setCell_same W b 0 _ 34 (.int .u16 ch') h))
theorem pick_store {V V1 : World} {ch k : Nat} {v : Value} {f0 : Fr} (hv : Below V.heap.size V V1) (hXw : BoxA V1 V.heap.size ch k v) (hXf : BoxF V1 (V.heap.size + 1) f0) (ch' k' : Nat) (v' : Value) (f : Fr) :
    Below V.heap.size V (pickW V1 V.heap.size ch' k' v' f) ∧ BoxA (pickW V1 V.heap.size ch' k' v' f) V.heap.size ch' k' v' ∧ BoxF (pickW V1 V.heap.size ch' k' v' f) (V.heap.size + 1) f := by
  have n1 : V.heap.size ≠ V.heap.size + 1 := by omega
  have n2 : V.heap.size + 1 ≠ V.heap.size := by omega
  refine ⟨?_, ?_, ?_⟩
  · exact below_setAll (below_set (below_set (below_set hv (Nat.le_refl _) _) (Nat.le_refl _) _) (Nat.le_refl _) _) (by omega) _ _ _ _ _ _ _ _
  · unfold pickW BoxA
    rw [heap_setCell_other _ _ _ _ n1, heap_setCell_other _ _ _ _ n1, heap_setCell_other _ _ _ _ n1, heap_setCell_other _ _ _ _ n1, heap_setCell_other _ _ _ _ n1, heap_setCell_other _ _ _ _ n1, heap_setCell_other _ _ _ _ n1, heap_setCell_other _ _ _ _ n1]
    exact setA hXw ch' k' v'
  · have h : BoxF (((V1.setCell ⟨V.heap.size, 0, none⟩ (.int .u16 ch')).setCell ⟨V.heap.size, 1, none⟩ (.int .u8 k')).setCell ⟨V.heap.size, 2, none⟩ v') (V.heap.size + 1) f0 := by
      unfold BoxF
      rw [heap_setCell_other _ _ _ _ n2, heap_setCell_other _ _ _ _ n2, heap_setCell_other _ _ _ _ n2]
      exact hXf
    exact h.setAll f
theorem box_store {V V1 : World} {ch k : Nat} {v : Value} {f0 : Fr} (hv : Below V.heap.size V V1) (hXw : BoxA V1 V.heap.size ch k v) (hXf : BoxF V1 (V.heap.size + 1) f0) (f : Fr) :
    Below V.heap.size V ((((((((V1.setCell ⟨V.heap.size + 1, 0, none⟩ (.bool f.a)).setCell ⟨V.heap.size + 1, 1, none⟩ (.bool f.b)).setCell ⟨V.heap.size + 1, 2, none⟩ (.bool f.c)).setCell ⟨V.heap.size + 1, 3, none⟩ (.bool f.d)).setCell ⟨V.heap.size + 1, 4, none⟩ (.int .u8 f.t)).setCell ⟨V.heap.size + 1, 5, none⟩ (.int .u8 f.k)).setCell ⟨V.heap.size + 1, 6, none⟩ (.int .u16 f.ch)).setCell ⟨V.heap.size + 1, 7, none⟩ (.string f.p)) ∧
    BoxA ((((((((V1.setCell ⟨V.heap.size + 1, 0, none⟩ (.bool f.a)).setCell ⟨V.heap.size + 1, 1, none⟩ (.bool f.b)).setCell ⟨V.heap.size + 1, 2, none⟩ (.bool f.c)).setCell ⟨V.heap.size + 1, 3, none⟩ (.bool f.d)).setCell ⟨V.heap.size + 1, 4, none⟩ (.int .u8 f.t)).setCell ⟨V.heap.size + 1, 5, none⟩ (.int .u8 f.k)).setCell ⟨V.heap.size + 1, 6, none⟩ (.int .u16 f.ch)).setCell ⟨V.heap.size + 1, 7, none⟩ (.string f.p)) V.heap.size ch k v ∧
    BoxF ((((((((V1.setCell ⟨V.heap.size + 1, 0, none⟩ (.bool f.a)).setCell ⟨V.heap.size + 1, 1, none⟩ (.bool f.b)).setCell ⟨V.heap.size + 1, 2, none⟩ (.bool f.c)).setCell ⟨V.heap.size + 1, 3, none⟩ (.bool f.d)).setCell ⟨V.heap.size + 1, 4, none⟩ (.int .u8 f.t)).setCell ⟨V.heap.size + 1, 5, none⟩ (.int .u8 f.k)).setCell ⟨V.heap.size + 1, 6, none⟩ (.int .u16 f.ch)).setCell ⟨V.heap.size + 1, 7, none⟩ (.string f.p)) (V.heap.size + 1) f := by
  have n1 : V.heap.size ≠ V.heap.size + 1 := by omega
  refine ⟨below_setAll hv (by omega) _ _ _ _ _ _ _ _, ?_, hXf.setAll f⟩
  unfold BoxA
  rw [heap_setCell_other _ _ _ _ n1, heap_setCell_other _ _ _ _ n1, heap_setCell_other _ _ _ _ n1, heap_setCell_other _ _ _ _ n1, heap_setCell_other _ _ _ _ n1, heap_setCell_other _ _ _ _ n1, heap_setCell_other _ _ _ _ n1, heap_setCell_other _ _ _ _ n1]
  exact hXw

end Go.Proofs.Ytocankfabgjjmaa
