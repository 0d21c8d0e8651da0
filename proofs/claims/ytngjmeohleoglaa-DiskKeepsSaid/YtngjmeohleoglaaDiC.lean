/-
  The contracts of disk's find, Read and Safe.
  Conditions: none but sizes.
-/
import Derived.Test.YtngjmeohleoglaaDiA
namespace Go.Proofs.Ytngjmeohleoglaa
open Go.RowKit
set_option linter.unusedVariables false
set_option linter.unusedSimpArgs false
set_option maxRecDepth 100000

theorem zeroFile (w : World) : (zeroValue 65).run Try.prog w = .ok (.pointer none) w := by rw [Try.zeroValue65]
/-- What find tells of the errors. -/
def findE (st : DD) (q : DName) (r : Bool) : Nat := if st.down then 100 else if r then (if (getA q st.fs).isSome then 0 else 7) else 2

section
variable {w : World} {base nb mb : Nat} {X : List PF} {st : DD} {d : Value}
theorem DiskI.look (h : DiskI w base nb mb X st) {q : DName} (hq : q.length ≤ 140737488355328) : (Instr.lookup 48 (.map (some mb)) (.string (str8 q)) true).run Try.prog w = .ok (.tuple #[(getA q (Lof X)).getD (.pointer none), .bool (getA q (Lof X)).isSome]) w :=
  h.map.look Try.underlying48 hq (zeroFile w)
theorem DiskI.some_iff (h : DiskI w base nb mb X st) (q : DName) : (getA q (Lof X)).isSome = (getA q st.fs).isSome := by
  have e := h.get q
  cases hg : getA q st.fs with
  | none => rw [(getA_Lof_none (e.trans hg)).1]; rfl
  | some f =>
    obtain ⟨A, x, B, rfl, _, _, hx⟩ := getA_Lof_some h.nodup (e.trans hg)
    rw [hx]; rfl

theorem find_dead (h : DeadD w d) (s : ByteArray) (r : Bool) : Calls Try.prog 44 #[d, .string s, .bool r] w fun e w' => e = .returned (.tuple #[.pointer none, .int .i64 1]) ∧ w' = w := by
  have HC := Lib.hid (refusal_dead h r)
  go_enter Try.func44, Try.ntmps44
  go_wp2_with (go_at_call 45; refine HC.out.mono ?_; rintro e w1 ⟨rfl, rfl⟩)
  go_ret2
  exact ⟨rfl, rfl⟩
theorem find_any (h : DiskI w base nb mb X st) (q : DName) (hq : q.length ≤ 140737488355328) (r : Bool) : Calls Try.prog 44 #[.pointer (some ⟨nb, 0, none⟩), .string (str8 q), .bool r] w fun e w' =>
    e = .returned (.tuple #[if findE st q r = 0 then (getA q (Lof X)).getD (.pointer none) else .pointer none, .int .i64 (findE st q r)]) ∧ w' = w := by
  have HC := Lib.hid (refusal_any h.box r)
  have hl := h.look hq
  rw [h.some_iff] at hl
  have c2 := h.box.c2
  obtain ⟨E, hE⟩ : ∃ E, E = findE st q r := ⟨_, rfl⟩
  rw [← hE]
  generalize (getA q (Lof X)).getD (.pointer none) = V at *
  unfold findE at hE
  generalize (getA q st.fs).isSome = I at *
  obtain ⟨room, fuse, down, fs⟩ := st
  simp only at *
  have HE := Lib.hid hE
  clear hE
  cases down <;> cases r <;> cases I
  all_goals
    have hE := HE.out
    simp only [if_true, if_false, Bool.false_eq_true] at hE
    subst hE
    go_enter Try.func44, Try.ntmps44
    go_wp2_with (go_at_call 45; refine HC.out.mono ?_; rintro e w1 ⟨rfl, rfl⟩)
    go_ret2
    exact ⟨rfl, rfl⟩

theorem read_dead (h : DeadD w d) (s : ByteArray) : Calls Try.prog 18 #[d, .string s] w fun e w' => e = .returned (.tuple #[.string ⟨#[]⟩, .int .i64 1]) ∧ w' = w := by
  have HC := Lib.hid (find_dead h s true)
  go_enter Try.func18, Try.ntmps18
  go_wp2_with (go_at_call 44; refine HC.out.mono ?_; rintro e w1 ⟨rfl, rfl⟩)
  go_ret2
  exact ⟨rfl, rfl⟩
theorem safe_dead (h : DeadD w d) (s : ByteArray) : Calls Try.prog 19 #[d, .string s] w fun e w' => e = .returned (.tuple #[.int .i64 0, .int .i64 1]) ∧ w' = w := by
  have HC := Lib.hid (find_dead h s true)
  go_enter Try.func19, Try.ntmps19
  go_wp2_with (go_at_call 44; refine HC.out.mono ?_; rintro e w1 ⟨rfl, rfl⟩)
  go_ret2
  exact ⟨rfl, rfl⟩
/-- What find tells, by cases. -/
theorem find_said (h : DiskI w base nb mb X st) (q : DName) (hq : q.length ≤ 140737488355328) (r : Bool) : (findE st q r ≠ 0 ∧ Calls Try.prog 44 #[.pointer (some ⟨nb, 0, none⟩), .string (str8 q), .bool r] w fun e w' => e = .returned (.tuple #[.pointer none, .int .i64 (findE st q r)]) ∧ w' = w) ∨
    (st.down = false ∧ r = true ∧ ∃ A x B, X = A ++ x :: B ∧ x.q = q ∧ getA q st.fs = some x.f ∧ Calls Try.prog 44 #[.pointer (some ⟨nb, 0, none⟩), .string (str8 q), .bool r] w fun e w' => e = .returned (.tuple #[.pointer (some ⟨x.p, 0, none⟩), .int .i64 0]) ∧ w' = w) := by
  have hc := find_any h q hq r
  by_cases h0 : findE st q r = 0
  · refine .inr ?_
    rw [if_pos h0, h0] at hc
    unfold findE at h0
    split at h0
    · cases h0
    · rename_i hd
      split at h0
      · rename_i hr
        split at h0
        · rename_i hs
          obtain ⟨f, hf⟩ := Option.isSome_iff_exists.1 hs
          obtain ⟨A, x, B, rfl, e1, e2, e3⟩ := getA_Lof_some h.nodup ((h.get q).trans hf)
          rw [e3] at hc
          exact ⟨by simpa using hd, hr, A, x, B, rfl, e1, by rw [hf, e2], hc⟩
        · cases h0
      · cases h0
  · rw [if_neg h0] at hc
    exact .inl ⟨h0, hc⟩

theorem readD_err {q : DName} (h : findE st q true ≠ 0) : readD st q = ([], 0, findE st q true) := by
  unfold readD findE at *
  cases hd : st.down
  · rw [hd] at h
    cases hg : getA q st.fs with
    | none => rfl
    | some f => rw [hg] at h; exact absurd rfl h
  · rfl
theorem readD_ok {q : DName} {f : FD} (h : st.down = false) (hg : getA q st.fs = some f) : readD st q = (f.b, f.safe, 0) := by
  unfold readD
  rw [h, hg]
  rfl
theorem read_any (h : DiskI w base nb mb X st) (q : DName) (hq : q.length ≤ 140737488355328) : Calls Try.prog 18 #[.pointer (some ⟨nb, 0, none⟩), .string (str8 q)] w fun e w' => e = .returned (.tuple #[.string (str8 (readD st q).1), .int .i64 (readD st q).2.2]) ∧ w' = w := by
  rcases find_said h q hq true with ⟨h0, hc⟩ | ⟨hd, _, A, x, B, rfl, rfl, hg, hc⟩
  · rw [readD_err h0]
    generalize findE st q true = E at *
    have HC := Lib.hid hc
    have t1 : ((E : Int) != 0) = true := by simp; omega
    clear hc h0
    go_enter Try.func18, Try.ntmps18
    go_wp2_with (go_at_call 44; refine HC.out.mono ?_; rintro e w1 ⟨rfl, rfl⟩)
    go_ret2
    exact ⟨rfl, rfl⟩
  · rw [readD_ok hd hg]
    obtain ⟨f1, f2⟩ := h.file x (by simp)
    obtain ⟨g, _, hsh⟩ := f2.shows
    have hcv := conv_at hsh
    have c0 := f1.c0
    have HC := Lib.hid hc
    clear hc
    go_enter Try.func18, Try.ntmps18
    go_wp2_with (go_at_call 44; refine HC.out.mono ?_; rintro e w1 ⟨rfl, rfl⟩)
    go_ret2
    exact ⟨rfl, rfl⟩
theorem safe_any (h : DiskI w base nb mb X st) (q : DName) (hq : q.length ≤ 140737488355328) : Calls Try.prog 19 #[.pointer (some ⟨nb, 0, none⟩), .string (str8 q)] w fun e w' => e = .returned (.tuple #[.int .i64 (readD st q).2.1, .int .i64 (readD st q).2.2]) ∧ w' = w := by
  rcases find_said h q hq true with ⟨h0, hc⟩ | ⟨hd, _, A, x, B, rfl, rfl, hg, hc⟩
  · rw [readD_err h0]
    generalize findE st q true = E at *
    have HC := Lib.hid hc
    have t1 : ((E : Int) != 0) = true := by simp; omega
    clear hc h0
    go_enter Try.func19, Try.ntmps19
    go_wp2_with (go_at_call 44; refine HC.out.mono ?_; rintro e w1 ⟨rfl, rfl⟩)
    go_ret2
    exact ⟨rfl, rfl⟩
  · rw [readD_ok hd hg]
    obtain ⟨f1, f2⟩ := h.file x (by simp)
    have c1 := f1.c1
    have HC := Lib.hid hc
    clear hc
    go_enter Try.func19, Try.ntmps19
    go_wp2_with (go_at_call 44; refine HC.out.mono ?_; rintro e w1 ⟨rfl, rfl⟩)
    go_ret2
    exact ⟨rfl, rfl⟩
end

end Go.Proofs.Ytngjmeohleoglaa
