/-
  The contract of the law's own head.
  Conditions: none.
-/
import Derived.Test.YtnafibnhmhbfiaaPrJZ
namespace Go.Proofs.Ytnafibnhmhbfiaa
open Go.RowKit
set_option linter.unusedVariables false
set_option linter.unusedSimpArgs false

def pH1 : PropP := ⟨⟨#[113]⟩, true, false, ⟨#[]⟩, prZ⟩
def pH2 : PropP := ⟨⟨#[]⟩, false, true, ⟨#[]⟩, prZ⟩
theorem valid_pH1 : validPr pH1 := ⟨by decide, by decide, .inr rfl⟩
theorem valid_pH2 : validPr pH2 := ⟨by decide, by decide, .inr rfl⟩
theorem enc_pH1 : encPr pH1 = [0, 0, 0, 6, 4, 1, 0, 5, 1, 113] := by decide +kernel
theorem enc_pH2 : encPr pH2 = [0, 0, 0, 4, 4, 1, 0, 2] := by decide +kernel
theorem get_pH2 : getPr (sb ⟨#[0, 0, 0, 4, 4, 1, 0, 2]⟩) = some pH2 := by
  have := get_enc valid_pH2
  rw [enc_pH2] at this
  exact this
theorem get_nil9 : getPr (sb ⟨#[]⟩) = none := by
  cases h : getPr (sb ⟨#[]⟩) with
  | none => rfl
  | some p =>
    obtain ⟨_, h2⟩ := get_some h
    have h3 := congrArg List.length h2
    have h4 : (encPr p).length ≥ 8 := by
      unfold encPr
      rw [List.length_append, partB_len]
      omega
    rw [h3] at h4
    exact absurd h4 (by decide)

set_option maxRecDepth 100000 in
set_option maxHeartbeats 4000000 in
theorem phead_any (w : World) : Calls Try.prog 10 #[] w fun e w' => e = .returned (.bool true) ∧ Below w.heap.size w w' := by
  have hp := pput_ok pH1 (.int .u8 0) (.int .u64 0) (.string ⟨#[]⟩) (.slice none 0 0) (.slice none 0 0) w ⟨by decide, by decide, zero_shows w⟩ (by decide) valid_pH1
  rw [enc_pH1] at hp
  have HP := Lib.hid hp
  have HG1 := Lib.hid (fun w => pget_any ⟨#[0, 0, 0, 4, 4, 1, 0, 2]⟩ w (by decide))
  have HG2 := Lib.hid (fun w => pget_any ⟨#[]⟩ w (by decide))
  unfold PGetSaid at HG1 HG2
  rw [get_pH2] at HG1
  rw [get_nil9] at HG2
  unfold propV pH1 at HP
  unfold propV pH2 at HG1
  unfold propV zPr at HG2
  simp only [] at HP HG1 HG2
  clear hp
  go_enter Try.func10, Try.ntmps10
  go_wp2_with fail
  refine HP.out.mono ?_
  rintro e w1 ⟨rfl, hb1⟩
  go_wp2_with fail
  refine (HG1.out _).mono ?_
  rintro e w2 ⟨hb2, v0, v1, v2, v3, v4, rfl, hs2⟩
  obtain ⟨k, n, ss, a3, n3, c3, a4, n4, c4, hvs⟩ := hs2.app.cells5
  simp only [List.cons.injEq, and_true] at hvs
  obtain ⟨rfl, rfl, rfl, rfl, rfl⟩ := hvs
  have hA := below_boxV w2 (Obj.cells #[.string ⟨#[]⟩, .bool false, .bool true, .string ⟨#[]⟩, .int .u8 k, .int .u64 n, .string ss, .slice a3 n3 c3, .slice a4 n4 c4] 29)
  have hX := BoxPr.new (p := pH2) (v0 := .int .u8 k) (v1 := .int .u64 n) (v2 := .string ss) (v3 := .slice a3 n3 c3) (v4 := .slice a4 n4 c4) w2
  have HB2 := Lib.hid ((hb1.trans (hb2.mono hb1.size)).trans (hA.mono (by have := hb1.size; have := hb2.size; omega)))
  have HX := Lib.hid hX
  clear hb1 hb2 hs2 hA hX
  go_wp2_with fail
  refine (HG2.out _).mono ?_
  rintro e w3 ⟨hb3, rfl⟩
  have hX3 := HX.out.kept hb3 (Nat.le_refl _)
  have hA3 := below_boxV w3 (Obj.cells #[.string ⟨#[]⟩, .bool false, .bool false, .string ⟨#[]⟩, .int .u8 0, .int .u64 0, .string ⟨#[]⟩, .slice none 0 0, .slice none 0 0] 29)
  have hX4 := hX3.kept hA3 (Nat.le_refl _)
  obtain ⟨⟨_, e1, e2, _⟩, _⟩ := hX4.cells
  have e1' : (w3.alloc (Obj.cells #[.string ⟨#[]⟩, .bool false, .bool false, .string ⟨#[]⟩, .int .u8 0, .int .u64 0, .string ⟨#[]⟩, .slice none 0 0, .slice none 0 0] 29)).cell? ⟨w2.heap.size, 1, none⟩ = some (.bool false) := e1
  have e2' : (w3.alloc (Obj.cells #[.string ⟨#[]⟩, .bool false, .bool false, .string ⟨#[]⟩, .int .u8 0, .int .u64 0, .string ⟨#[]⟩, .slice none 0 0, .slice none 0 0] 29)).cell? ⟨w2.heap.size, 2, none⟩ = some (.bool true) := e2
  have HB4 := Lib.hid ((HB2.out.trans (hb3.mono HB2.out.size)).trans (hA3.mono (by have := HB2.out.size; have := hb3.size; omega)))
  have hstr : (str8 [0, 0, 0, 6, 4, 1, 0, 5, 1, 113]).toList = [0, 0, 0, 6, 4, 1, 0, 5, 1, 113] := str8_toList _
  clear hX3 hX4 hA3 e1 e2 hb3
  go_wp2_with fail
  go_ret
  exact ⟨rfl, HB4.out⟩

/-- Properties in two boxes of the call's own. -/
structure TwoP (w0 : World) (p q : PropP) (a0 a1 a2 a3 a4 b0 b1 b2 b3 b4 : Value) (w : World) : Prop where
  a : BoxPr w w0.heap.size p a0 a1 a2 a3 a4
  b : BoxPr w (w0.heap.size + 1) q b0 b1 b2 b3 b4
  bel : Below w0.heap.size w0 w
section
variable {w0 w w' : World} {p q : PropP} {a0 a1 a2 a3 a4 b0 b1 b2 b3 b4 : Value}
theorem TwoP.new (w0 : World) (p q : PropP) (a0 a1 a2 a3 a4 b0 b1 b2 b3 b4 : Value) : TwoP w0 p q a0 a1 a2 a3 a4 b0 b1 b2 b3 b4 ((w0.alloc (Obj.cells #[.string p.key, .bool p.dur, .bool p.red, .string p.id, a0, a1, a2, a3, a4] 29)).alloc (Obj.cells #[.string q.key, .bool q.dur, .bool q.red, .string q.id, b0, b1, b2, b3, b4] 29)) := by
  have hB1 := below_boxV w0 (Obj.cells #[.string p.key, .bool p.dur, .bool p.red, .string p.id, a0, a1, a2, a3, a4] 29)
  have hB2 := below_boxV (w0.alloc (Obj.cells #[.string p.key, .bool p.dur, .bool p.red, .string p.id, a0, a1, a2, a3, a4] 29)) (Obj.cells #[.string q.key, .bool q.dur, .bool q.red, .string q.id, b0, b1, b2, b3, b4] 29)
  have hX2 := BoxPr.new (p := q) (v0 := b0) (v1 := b1) (v2 := b2) (v3 := b3) (v4 := b4) (w0.alloc (Obj.cells #[.string p.key, .bool p.dur, .bool p.red, .string p.id, a0, a1, a2, a3, a4] 29))
  rw [World.size_alloc] at hX2
  exact ⟨BoxPr.kept (BoxPr.new w0) hB2 (Nat.le_refl _), hX2, hB1.trans (hB2.mono hB1.size)⟩
theorem TwoP.step (h : TwoP w0 p q a0 a1 a2 a3 a4 b0 b1 b2 b3 b4 w) (hb : Below w.heap.size w w') : TwoP w0 p q a0 a1 a2 a3 a4 b0 b1 b2 b3 b4 w' :=
  ⟨h.a.kept hb (Nat.le_refl _), h.b.kept hb (Nat.le_refl _), h.bel.trans (hb.mono h.bel.size)⟩
theorem TwoP.drew (h : TwoP w0 p q a0 a1 a2 a3 a4 b0 b1 b2 b3 b4 w) : TwoP w0 p q a0 a1 a2 a3 a4 b0 b1 b2 b3 b4 w.drew := h.step (below_drew1 (Below.refl _ _))
theorem TwoP.cells (h : TwoP w0 p q a0 a1 a2 a3 a4 b0 b1 b2 b3 b4 w) :
    ((w.cell? ⟨w0.heap.size, 0, none⟩ = some (.string p.key) ∧ w.cell? ⟨w0.heap.size, 1, none⟩ = some (.bool p.dur) ∧ w.cell? ⟨w0.heap.size, 2, none⟩ = some (.bool p.red) ∧ w.cell? ⟨w0.heap.size, 3, none⟩ = some (.string p.id)) ∧
      (w.cell? ⟨w0.heap.size, 4, none⟩ = some a0 ∧ w.cell? ⟨w0.heap.size, 5, none⟩ = some a1 ∧ w.cell? ⟨w0.heap.size, 6, none⟩ = some a2 ∧ w.cell? ⟨w0.heap.size, 7, none⟩ = some a3 ∧ w.cell? ⟨w0.heap.size, 8, none⟩ = some a4)) ∧
    ((w.cell? ⟨w0.heap.size + 1, 0, none⟩ = some (.string q.key) ∧ w.cell? ⟨w0.heap.size + 1, 1, none⟩ = some (.bool q.dur) ∧ w.cell? ⟨w0.heap.size + 1, 2, none⟩ = some (.bool q.red) ∧ w.cell? ⟨w0.heap.size + 1, 3, none⟩ = some (.string q.id)) ∧
      (w.cell? ⟨w0.heap.size + 1, 4, none⟩ = some b0 ∧ w.cell? ⟨w0.heap.size + 1, 5, none⟩ = some b1 ∧ w.cell? ⟨w0.heap.size + 1, 6, none⟩ = some b2 ∧ w.cell? ⟨w0.heap.size + 1, 7, none⟩ = some b3 ∧ w.cell? ⟨w0.heap.size + 1, 8, none⟩ = some b4)) := ⟨h.a.cells, h.b.cells⟩
theorem TwoP.calls {f : FuncId} {args : Array Value} {r : Ending} (hc : ∀ w, TwoP w0 p q a0 a1 a2 a3 a4 b0 b1 b2 b3 b4 w → Calls Try.prog f args w fun e w' => e = r ∧ Below w.heap.size w w') :
    ∀ w, TwoP w0 p q a0 a1 a2 a3 a4 b0 b1 b2 b3 b4 w → Calls Try.prog f args w fun e w' => e = r ∧ TwoP w0 p q a0 a1 a2 a3 a4 b0 b1 b2 b3 b4 w' :=
  fun w h => (hc w h).mono fun e w' he => ⟨he.1, h.step he.2⟩
end
/-- What Put tells, properties that may be or not. -/
noncomputable def putPr (p : PropP) : ByteArray := by classical exact if validPr p then str8 (encPr p) else ⟨#[]⟩
theorem pput_any (p : PropP) (v0 v1 v2 v3 v4 : Value) (w : World) (h : ShowsP w p v0 v1 v2 v3 v4) (hc : cntT p.app ≤ 1000000) :
    Calls Try.prog 12 #[propV p v0 v1 v2 v3 v4] w fun e w' => e = .returned (.tuple #[.string (putPr p), .int .i64 (errP p)]) ∧ Below w.heap.size w w' := by
  by_cases hv : validPr p
  · have := pput_ok p v0 v1 v2 v3 v4 w h hc hv
    rw [errP_ok hv]
    unfold putPr
    rw [if_pos hv]
    exact this
  · have := pput_no p v0 v1 v2 v3 v4 w h hc hv
    rw [errP_no hv]
    unfold putPr
    rw [if_neg hv]
    exact this

end Go.Proofs.Ytnafibnhmhbfiaa
