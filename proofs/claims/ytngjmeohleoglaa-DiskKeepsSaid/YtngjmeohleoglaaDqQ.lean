/-
  The law's own 'does', as one: any call.
  Conditions: none but sizes.
-/
import Derived.Test.YtngjmeohleoglaaDqP
namespace Go.Proofs.Ytngjmeohleoglaa
open Go.RowKit Go.Shelf
set_option linter.unusedVariables false
set_option linter.unusedSimpArgs false
set_option maxRecDepth 100000

section
variable {w0 w w' : World} {base nb qb n m : Nat} {X : Nat → Prop} {st sq : DD}
theorem DWf.more (h : DWf n st) : DWf (n + 1) st := ⟨h.rising, h.room, h.used, h.fuse, Nat.le_succ_of_le h.count, h.each⟩
theorem Both.more (h : Both w0 base nb qb X n m st sq w) : Both w0 base nb qb X (n + 1) (m + 1) st sq w := ⟨h.all, h.bel, h.fit, h.wf.more, h.wq.more⟩
theorem does_any (h : Both w0 base nb qb X n m st sq w) (hn : n ≤ 1000000) (hm : m ≤ 1000000) (hx : ∀ k, X k → k < w.heap.size) (x : DAct) (ha : x.what < 256) (hq : x.name.length ≤ 140737488355328) (ht : x.to.length ≤ 140737488355328) (hk9 : x.n ≤ 9223372036854775807) (Ak : Option Addr) (nk ck : Nat) (dk : Nat) (hks : ShowsG intC w0 dk (.slice Ak nk ck) x.keep) (hdk : dk < base) (hs : base ≤ w0.heap.size) (hkl : x.keep.length ≤ 140737488355328) :
    Calls Try.prog 11 #[.pointer (some ⟨nb, 0, none⟩), .pointer (some ⟨qb, 0, none⟩), .agg #[.int .u8 x.what, .string (str8 x.name), .string (str8 x.to), .int .i64 x.n, .slice Ak nk ck]] w (DoesSaid w0 base nb qb X (n + 1) (m + 1) st sq (doD st x).1 (doD sq x).1 w) := by
  obtain ⟨a, q, t, k, keep⟩ := x
  simp only at ha hq ht hk9 hks hkl ⊢
  have hcs : a % 9 = 0 ∨ a % 9 = 1 ∨ a % 9 = 2 ∨ a % 9 = 3 ∨ a % 9 = 4 ∨ a % 9 = 5 ∨ a % 9 = 6 ∨ a % 9 = 7 ∨ a % 9 = 8 := by omega
  rcases hcs with e | e | e | e | e | e | e | e | e
  · have := does_append h hm hx a ha e q t hq ht k Ak nk ck
    simpa [doD, e] using this
  · have := does_sync h hm hx a ha e q t hq ht k Ak nk ck
    simpa [doD, e] using this
  · have := does_cut h hm hx a ha e q t hq ht k Ak nk ck
    simpa [doD, e] using this
  · have := does_rename h hm hx a ha e q t hq ht k Ak nk ck
    simpa [doD, e] using this
  · have := does_remove h hm hx a ha e q t hq ht k Ak nk ck
    simpa [doD, e] using this
  · refine (does_read h hm hx a ha e q t hq k Ak nk ck).mono ?_
    rintro e' w' ⟨r, h1, h2, h3, h4⟩
    have h5 := h3.more
    refine ⟨r, h1, h2, ?_, h4⟩
    simpa [doD, e] using h5
  · have := does_fuse h hm hx a ha e q t k hk9 Ak nk ck
    simpa [doD, e] using this
  · have := does_crash h hm hx a ha e q t k Ak nk ck
    simpa [doD, e] using this
  · have := does_wake h hn hm hx a ha e q t k Ak nk ck keep dk hks hdk hs hkl
    simpa [doD, e] using this
end

end Go.Proofs.Ytngjmeohleoglaa
