/-
  Texts, together: Mt0, Mt1, Mt98, Mt110, Mt119, Mt100, Mt115, Mt116, Mt120, Mt114, Mt118, MtA.
  Conditions: none but sizes.
-/
import Derived.Test.YtpbdnfonflmncaaGreatMeUBZ
import Derived.Test.YtpbdnfonflmncaaGreatMeEZ
import Derived.Test.YtpbdnfonflmncaaGreatMeMZ
import Derived.Test.YtpbdnfonflmncaaGreatMq0Z
import Derived.Test.YtpbdnfonflmncaaGreatRef03FZ
import Derived.Test.YtpbdnfonflmncaaGreatRef04AZ
import Derived.Test.YtpbdnfonflmncaaGreatVgCZ
import Derived.Test.YtpbdnfonflmncaaGreatMeR0Z
import Derived.Deep.RegionHeld3
set_option linter.unusedVariables false
set_option linter.unusedSimpArgs false
namespace Go.Proofs.YtpbdnfonflmncaaGreat
open Go.RowKit
theorem mt_results {P : Program} {fn : Func} {p u : Tmp} {ty : TypeId} (h : fn.results = #[.cell p ty, .tmp u]) (tmps : Array Value) (w : World) (g : Nat) (t : TypeId) (cs : Array Value) (fr : Nat × Nat) (d : TypeDesc)
  (hp : tmps.getD p undef = .pointer (some ⟨g, 0, none⟩)) (hg : w.heap[g]? = some (.cells cs t fr))
  (hu : P.underlying ty = some d) (hd : (match d with | .struct _ | .array _ _ => true | _ => false) = true) (hi : (P.info? ty).map (·.size) = some cs.size) :
  (results fn tmps).run P w = .ok (.tuple #[.agg cs, tmps.getD u undef]) w := by
 have hp' : tmps[p]?.getD undef = .pointer (some ⟨g, 0, none⟩) := by simpa using hp
 simp [results, h, hp', asAddr, run_loadVar_row w g t ty cs fr d hg hu hd hi]
theorem shows_kept {w w' : World} {d : Nat} {v : Value} {l : List UInt8} (h : Shows w d v l) (hb : Below w.heap.size w w') : Shows w' d v l := h.keep hb.size (fun hp => hb.block d (h.lt hp))
theorem num1_lt (s : Option (List UInt8)) : (numS 1 s).1 < 256 := by
 have := numS_below 1 s (by decide)
 simpa using this
theorem text_most1 (l : List UInt8) : ({ zA with s := str8 (textS (widD 115 : Nat) (256 ^ widD 115 - 1 : Nat) (some l)).1 }, (textS (widD 115 : Nat) (256 ^ widD 115 - 1 : Nat) (some l)).2) = (({ zA with s := str8 (textS 1 65535 (some l)).1 } : ArgP), (textS 1 65535 (some l)).2) := by
 have e : textS (widD 115 : Nat) (256 ^ widD 115 - 1 : Nat) (some l) = textS 1 65535 (some l) := by
  show textT 255 (numS 1 (some l)) = textT 65535 (numS 1 (some l))
  have h := num1_lt (some l)
  generalize numS 1 (some l) = R at *
  obtain ⟨n, o⟩ := R
  dsimp only at h
  unfold textT
  rw [if_neg (by dsimp only; omega), if_neg (by dsimp only; omega)]
 rw [e]
theorem text_most2 (l : List UInt8) : ({ zA with s := str8 (textS (widD 116 : Nat) (256 ^ widD 116 - 1 : Nat) (some l)).1 }, (textS (widD 116 : Nat) (256 ^ widD 116 - 1 : Nat) (some l)).2) = (({ zA with s := str8 (textS 2 65535 (some l)).1 } : ArgP), (textS 2 65535 (some l)).2) := rfl
theorem reader_rest {V : World} {g d1 : Nat} {s : Option (List UInt8)} (h : QS V g d1 s) : ∃ rv r, V.cell? ⟨g, 0, none⟩ = some rv ∧ Shows V d1 rv r ∧ r.length ≤ lenS s ∧ ∀ r', s = some r' → r = r' := by
 cases s with
 | none => exact ⟨.slice none 0 0, [], cell_of_row V g 0 _ 116 (0, 0) h, Shows.nil_ _ _, Nat.zero_le _, fun r' h => by cases h⟩
 | some r =>
  obtain ⟨A, c, h1, h2⟩ := h
  exact ⟨.slice A r.length c, r, cell_of_row V g 0 _ 116 (0, 0) h1, h2, Nat.le_refl _, fun r' h => by cases h; rfl⟩
def TakeSaid (k : Nat) (l : List UInt8) (d0 : Nat) (w : World) (e : Ending) (w' : World) : Prop :=
  ∃ (a : ArgP) (A : Option Addr) (c dq : Nat) (v0 v1 v2 v3 v4 rv : Value) (g : Nat) (r : List UInt8), e = .returned (.tuple #[argV a (.slice A a.q.length c) v0 v1 v2 v3 v4, rv]) ∧
    ShowsA (lowm w.heap.size w') a A c dq v0 v1 v2 v3 v4 ∧ Shows w' g rv r ∧ r.length ≤ l.length ∧ a.q.length ≤ 1100 ∧ Below w.heap.size w w' ∧ (∀ r', (readA k (some l)).2 = some r' → a = (readA k (some l)).1 ∧ r = r') ∧ (g = d0 ∨ w.heap.size ≤ g)
structure TkW (w V : World) (nb : Nat) (a : ArgP) (A : Option Addr) (c dq : Nat) (v0 v1 v2 v3 v4 rv : Value) (g : Nat) (r : List UInt8) : Prop where
  ro : ∃ u0 u1 u2 u3 u4, BoxG V w.heap.size zA (.slice none 0 0) u0 u1 u2 u3 u4
  ab : BoxG V nb a (.slice A a.q.length c) v0 v1 v2 v3 v4
  lt : w.heap.size < nb
  sh : ShowsA (lowm (w.heap.size + 1) V) a A c dq v0 v1 v2 v3 v4
  rs : Shows V g rv r
  gn : g ≠ w.heap.size
  bel : Below w.heap.size w V
theorem set12_below {B p : Nat} {w0 W : World} {a : ArgP} {qv v0 v1 v2 v3 v4 : Value} (h : Below B w0 W) (hp : B ≤ p) : Below B w0 (set12 W p a qv v0 v1 v2 v3 v4) := ((((((((((((h.setCell hp _).setCell hp _).setCell hp _).setCell hp _).setCell hp _).setCell hp _).setCell hp _).setCell hp _).setCell hp _).setCell hp _).setCell hp _).setCell hp _)
theorem TkW.done {w V : World} {nb : Nat} {a : ArgP} {A : Option Addr} {c dq : Nat} {v0 v1 v2 v3 v4 rv : Value} {g : Nat} {r : List UInt8} (h : TkW w V nb a A c dq v0 v1 v2 v3 v4 rv g r) :
  BoxG (set12 V w.heap.size a (.slice A a.q.length c) v0 v1 v2 v3 v4) w.heap.size a (.slice A a.q.length c) v0 v1 v2 v3 v4 ∧ ShowsA (lowm w.heap.size (set12 V w.heap.size a (.slice A a.q.length c) v0 v1 v2 v3 v4)) a A c dq v0 v1 v2 v3 v4 ∧ Shows (set12 V w.heap.size a (.slice A a.q.length c) v0 v1 v2 v3 v4) g rv r ∧ Below w.heap.size w (set12 V w.heap.size a (.slice A a.q.length c) v0 v1 v2 v3 v4) := by
 obtain ⟨u0, u1, u2, u3, u4, hr⟩ := h.ro
 obtain ⟨V', hV'⟩ : ∃ V', V' = set12 V w.heap.size a (.slice A a.q.length c) v0 v1 v2 v3 v4 := ⟨_, rfl⟩
 have h1 : BoxG V' w.heap.size a (.slice A a.q.length c) v0 v1 v2 v3 v4 := by rw [hV']; exact set12_box hr
 have h2 : V'.heap.size = V.heap.size := by rw [hV']; exact set12_size
 have h3 : ∀ k, k ≠ w.heap.size → V'.heap[k]? = V.heap[k]? := fun k hk => by rw [hV']; exact set12_other k hk
 have h5 : Below w.heap.size w V' := by rw [hV']; exact set12_below h.bel (Nat.le_refl _)
 rw [← hV']
 clear hV'
 have h4 : Sub (lowm (w.heap.size + 1) V) (lowm (w.heap.size + 1) V') := low_sub (by omega) (fun k hk _ => h3 k (by omega))
 have h6 : Sub (lowm (w.heap.size + 1) V') (lowm w.heap.size V') := low_anti (Nat.le_succ _)
 refine ⟨h1, (h.sh.sub h4).sub h6, h.rs.keep (by omega) (fun _ => h3 g h.gn), h5⟩
structure TkZ (w V : World) (nb : Nat) (a : ArgP) (A : Option Addr) (c dq : Nat) (v0 v1 v2 v3 v4 : Value) : Prop where
  ro : ∃ u0 u1 u2 u3 u4, BoxG V w.heap.size zA (.slice none 0 0) u0 u1 u2 u3 u4
  ab : BoxG V nb a (.slice A a.q.length c) v0 v1 v2 v3 v4
  lt : w.heap.size < nb
  sh : ShowsA (lowm (w.heap.size + 1) V) a A c dq v0 v1 v2 v3 v4
  bel : Below w.heap.size w V
theorem TkZ.done {w V : World} {nb : Nat} {a : ArgP} {A : Option Addr} {c dq : Nat} {v0 v1 v2 v3 v4 : Value} (h : TkZ w V nb a A c dq v0 v1 v2 v3 v4) :
  BoxG (set12 V w.heap.size a (.slice A a.q.length c) v0 v1 v2 v3 v4) w.heap.size a (.slice A a.q.length c) v0 v1 v2 v3 v4 ∧ ShowsA (lowm w.heap.size (set12 V w.heap.size a (.slice A a.q.length c) v0 v1 v2 v3 v4)) a A c dq v0 v1 v2 v3 v4 ∧ Below w.heap.size w (set12 V w.heap.size a (.slice A a.q.length c) v0 v1 v2 v3 v4) :=
 have hz : TkW w V nb a A c dq v0 v1 v2 v3 v4 (.slice none 0 0) (w.heap.size + 1) [] := ⟨h.ro, h.ab, h.lt, h.sh, Shows.nil_ _ _, by omega, h.bel⟩
 ⟨hz.done.1, hz.done.2.1, hz.done.2.2.2⟩
theorem showsA_plain (w : World) (a : ArgP) (hq : a.q = []) (hv : a.v = zT) (hs : SizeA a) : ShowsA w a none 0 0 (.int .u8 (0 : Nat)) (.int .u64 (0 : Nat)) (.string ⟨#[]⟩) (.slice none 0 0) (.slice none 0 0) :=
 ⟨hs, by rw [hq]; exact ShowsG.nil_ _ _ _, by rw [hv]; exact shows_zT w⟩
theorem sizeA_z : SizeA zA := ⟨by show (0 : Nat) < _; omega, by show (0 : Nat) < _; omega, (by unfold u32s; intro x hx; cases hx), Nat.zero_le _, Nat.zero_le _, Nat.zero_le _, Nat.zero_le _⟩
theorem take_boxes (w w1 : World) (hb : Below (w.heap.size + 1) (w.alloc (Obj.cells #[.bool false, .int .u64 0, .string ⟨#[]⟩, .int .u32 0, .string ⟨#[]⟩, .string ⟨#[]⟩, .slice none 0 0, .int .u8 0, .int .u64 0, .string ⟨#[]⟩, .slice none 0 0, .slice none 0 0] 52)) w1) :
  BoxG w1 w.heap.size zA (.slice none 0 0) (.int .u8 (0 : Nat)) (.int .u64 (0 : Nat)) (.string ⟨#[]⟩) (.slice none 0 0) (.slice none 0 0) ∧ Below w.heap.size w w1 := by
 have h0 := BoxG.zero w
 refine ⟨h0.kept hb (by simp), ?_⟩
 exact (((Below.refl _ _).alloc (Nat.le_refl _) _).trans (hb.mono (Nat.le_succ _)))
theorem qgetx_said (A : Option Addr) (c d : Nat) (l : List UInt8) (w : World) (hv : Shows w d (.slice A l.length c) l) (hb : l.length ≤ 20000) :
  Calls Tryz.prog 64 #[.slice A l.length c] w fun e w' => ∃ (f : Nat) (g h : ByteArray) (n : Nat) (code : Int), e = .returned (.tuple #[.agg #[.int .u32 f, .string g, .string h], .int .i64 n, .int .i64 code]) ∧ Below w.heap.size w w' ∧ (f < 4294967296 ∧ g.size ≤ 140737488351232 ∧ h.size ≤ 140737488351232) ∧ n ≤ l.length ∧
   (∀ r', (readA 120 (some l)).2 = some r' → (readA 120 (some l)).1 = { zA with f := f, g := g, h := h } ∧ r' = l.drop n) := by
 have hRD : readA 120 (some l) = ({ zA with f := (nextX (some l)).1.1, g := (nextX (some l)).1.2.1, h := (nextX (some l)).1.2.2 }, (nextX (some l)).2) := by
  unfold readA
  rw [if_neg (by decide), if_neg (by decide), if_pos rfl]
 rw [hRD]
 cases hg : getD l with
 | none =>
  refine (qgetX_short _ d l w hv (by omega) (gx_short _ hg)).mono ?_
  rintro e w' ⟨rfl, hb⟩
  refine ⟨0, ByteArray.empty, ByteArray.empty, 0, 4, rfl, hb, ⟨by omega, by decide, by decide⟩, Nat.zero_le _, fun r' hr => ?_⟩
  simp only [nextX, hg] at hr
  cases hr
 | some x =>
  obtain ⟨f, g, h, n⟩ := x
  obtain ⟨e1, e2, e3, e4, e5⟩ := gx_some _ _ _ _ _ hg
  by_cases hm : mayX (str8 g) (str8 h)
  ·have h1 := qgetX_ok _ d l _ w hv (by omega) e4 (by rw [e2, e3]; exact hm)
   rw [e1, e2, e3, List.length_drop, show (l.length : Int) - ((l.length - n : Nat) : Int) = (n : Int) by omega] at h1
   refine h1.mono ?_
   rintro e w' ⟨rfl, hb⟩
   have hf : f < 4294967296 := by rw [← e1]; exact numS4_lt _
   refine ⟨f, str8 g, str8 h, n, 0, rfl, hb, ⟨hf, by have := hm.2.1; omega, by have := hm.2.2; omega⟩, e5, fun r' hr => ?_⟩
   simp only [nextX, hg, if_pos hm, Option.some.injEq] at hr ⊢
   exact ⟨trivial, hr.symm⟩
  ·refine (qgetX_bad _ d l _ w hv (by omega) e4 (by rw [e2, e3]; exact hm)).mono ?_
   rintro e w' ⟨rfl, hb⟩
   refine ⟨0, ByteArray.empty, ByteArray.empty, 0, 40, rfl, hb, ⟨by omega, by decide, by decide⟩, Nat.zero_le _, fun r' hr => ?_⟩
   simp only [nextX, hg, if_neg hm] at hr
   cases hr
theorem getD__facts (l : List UInt8) : u32s (getD_ l).1 ∧ (getD_ l).1.length ≤ 1000 ∧ (getD_ l).2.1 ≤ l.length := by
 unfold getD_
 split
 ·exact ⟨(by unfold u32s; intro x hx; cases hx), Nat.zero_le _, Nat.zero_le _⟩
 ·split
  ·exact ⟨(by unfold u32s; intro x hx; cases hx), Nat.zero_le _, Nat.zero_le _⟩
  ·rename_i h1
   split
   ·exact ⟨(by unfold u32s; intro x hx; cases hx), Nat.zero_le _, Nat.zero_le _⟩
   ·rename_i h2
    split
    ·refine ⟨readS_u32 _ _, ?_, ?_⟩
     ·dsimp only
      rw [readS_length]
      omega
     ·dsimp only
      omega
    ·exact ⟨(by unfold u32s; intro x hx; cases hx), Nat.zero_le _, Nat.zero_le _⟩
theorem qgets_said (A : Option Addr) (c d : Nat) (l : List UInt8) (w : World) (hv : Shows w d (.slice A l.length c) l) (hb : l.length ≤ 20000) :
  Calls Tryz.prog 65 #[.slice A l.length c] w fun e w' => ∃ (v : Value) (q : List Sp) (n : Nat) (code : Int), e = .returned (.tuple #[v, .int .i64 n, .int .i64 code]) ∧ Below w.heap.size w w' ∧ OwnG spanC 126 w' w.heap.size v q ∧ u32s q ∧ q.length ≤ 1000 ∧ n ≤ l.length ∧
   (∀ r', (readA 114 (some l)).2 = some r' → (readA 114 (some l)).1 = { zA with q := q } ∧ r' = l.drop n) := by
 have hRD : readA 114 (some l) = ({ zA with q := (nextS (some l)).1 }, (nextS (some l)).2) := by
  unfold readA
  rw [if_neg (by decide), if_neg (by decide), if_neg (by decide), if_pos rfl]
 rw [hRD]
 refine (qget_any _ d l w hv (by omega)).mono ?_
 rintro e w' ⟨v', rfl, ho, hb'⟩
 obtain ⟨f1, f2, f3⟩ := getD__facts l
 refine ⟨v', _, _, _, rfl, hb', ho, f1, f2, f3, fun r' hr => ?_⟩
 simp only [nextS] at hr ⊢
 split at hr
 ·rename_i h0
  simp only [Option.some.injEq] at hr
  rw [if_pos h0]
  exact ⟨rfl, hr.symm⟩
 ·cases hr
theorem qgetv_said (A : Option Addr) (c d : Nat) (l : List UInt8) (w : World) (hv : Shows w d (.slice A l.length c) l) (hb : l.length ≤ 20000) :
  Calls Tryz.prog 66 #[.slice A l.length c] w fun e w' => ∃ (vs : List Value) (t : Tree) (n : Nat) (code : Int), e = .returned (.tuple #[.agg vs.toArray, .int .i64 n, .int .i64 code]) ∧ Below w.heap.size w w' ∧ ShowsT (lowm w.heap.size w') t vs ∧ n ≤ l.length ∧
   (∀ r', (readA 118 (some l)).2 = some r' → (readA 118 (some l)).1 = { zA with v := t } ∧ r' = l.drop n) := by
 have hRD : readA 118 (some l) = ({ zA with v := (nextV (some l)).1 }, (nextV (some l)).2) := by
  unfold readA
  rw [if_neg (by decide), if_neg (by decide), if_neg (by decide), if_neg (by decide), if_pos rfl]
 rw [hRD]
 refine (rget_any _ d l w hv hb).mono ?_
 rintro e w' ⟨hb', h⟩
 cases hg : getP l with
 | none =>
  rw [hg] at h
  refine ⟨_, zT, 0, 5, h, hb', shows_zT _, Nat.zero_le _, fun r' hr => ?_⟩
  simp only [nextV, hg] at hr
  cases hr
 | some x =>
  obtain ⟨t, n⟩ := x
  rw [hg] at h
  obtain ⟨vs, he, hs⟩ := h
  obtain ⟨_, _, hn, _⟩ := put_get hg
  refine ⟨vs, t, n, 0, he, hb', hs, hn, fun r' hr => ?_⟩
  simp only [nextV, hg, Option.some.injEq] at hr ⊢
  exact ⟨trivial, hr.symm⟩
set_option maxRecDepth 100000 in
set_option maxHeartbeats 4000000 in
theorem take_98 (l : List UInt8) (v : Value) (d0 : Nat) (w : World) (hv : Shows w d0 v l) (hl : l.length ≤ 20000) :
  Calls Tryz.prog 30 #[.int .u8 (98 : Nat), v] w (TakeSaid 98 l d0 w) := by
 obtain ⟨A0, c0, rfl, hlc, hcm, _⟩ := id hv
 obtain ⟨W0, hW0⟩ : ∃ W0, W0 = w.alloc (Obj.cells #[.bool false, .int .u64 0, .string ⟨#[]⟩, .int .u32 0, .string ⟨#[]⟩, .string ⟨#[]⟩, .slice none 0 0, .int .u8 0, .int .u64 0, .string ⟨#[]⟩, .slice none 0 0, .slice none 0 0] 52) := ⟨_, rfl⟩
 have hb0 : Below w.heap.size w W0 := by rw [hW0]; exact below_box w _
 have hs0 : W0.heap.size = w.heap.size + 1 := by rw [hW0]; simp
 have HV0 := Lib.hid hv
 have HVK := Lib.hid (fun w' (hb : Below w.heap.size w w') => shows_kept hv hb)
 have HO := Lib.hid (qopen_any _ l d0 W0 (shows_kept hv hb0) (by omega))
 have HW0 := Lib.hid hW0
 have HS0 := Lib.hid (And.intro hs0 hb0)
 clear hW0 hb0 hs0 hv
 go_enter Tryz.func30, Tryz.ntmps30
 go_upto_region 1 with fail
 rw [← HW0.out]
 go_wp2_with fail
 refine HO.out.mono ?_
 rintro e w1 ⟨g, d1, rfl, hqs, hg, ⟨hd1, hd2⟩, hb1⟩
 have hB1 : Below (w.heap.size + 1) (w.alloc (Obj.cells #[.bool false, .int .u64 0, .string ⟨#[]⟩, .int .u32 0, .string ⟨#[]⟩, .string ⟨#[]⟩, .slice none 0 0, .int .u8 0, .int .u64 0, .string ⟨#[]⟩, .slice none 0 0, .slice none 0 0] 52)) w1 := by rw [← HW0.out, ← HS0.out.1]; exact hb1
 obtain ⟨hro1, hbw1⟩ := take_boxes w w1 hB1
 have hg1 : w.heap.size + 1 ≤ g := by rw [← HS0.out.1]; exact hg
 have hdd : w.heap.size + 1 ≤ d1 := by rw [← HS0.out.1]; exact hd1
 have hgl : g < w1.heap.size := hqs.lt
 have hbA : Below w1.heap.size w1 (w1.alloc (Obj.cells #[.bool false, .int .u64 0, .string ⟨#[]⟩, .int .u32 0, .string ⟨#[]⟩, .string ⟨#[]⟩, .slice none 0 0, .int .u8 0, .int .u64 0, .string ⟨#[]⟩, .slice none 0 0, .slice none 0 0] 52)) := below_box w1 _
 have hab2 := BoxG.zero w1
 have hro2 := hro1.kept hbA (Nat.le_refl _)
 have hqs2 : QS (w1.alloc (Obj.cells #[.bool false, .int .u64 0, .string ⟨#[]⟩, .int .u32 0, .string ⟨#[]⟩, .string ⟨#[]⟩, .slice none 0 0, .int .u8 0, .int .u64 0, .string ⟨#[]⟩, .slice none 0 0, .slice none 0 0] 52)) g d1 (some l) := hqs.keep hbA.size (hbA.block g hgl) (fun h => hbA.block d1 h)
 have hbw2 := hbw1.trans (hbA.mono hbw1.size)
 have hnb2 : w1.heap.size < (w1.alloc (Obj.cells #[.bool false, .int .u64 0, .string ⟨#[]⟩, .int .u32 0, .string ⟨#[]⟩, .string ⟨#[]⟩, .slice none 0 0, .int .u8 0, .int .u64 0, .string ⟨#[]⟩, .slice none 0 0, .slice none 0 0] 52)).heap.size := by simp
 clear hqs hg hd1 hb1 hB1 hro1 hbA
 go_upto_region 4 with fail
 generalize w1.alloc _ = W2 at *
 obtain ⟨nb, hnb⟩ : ∃ nb, nb = w1.heap.size := ⟨_, rfl⟩
 rw [← hnb] at hab2 hnb2 hgl ⊢
 have hng : g < nb := hgl
 have hnw : w.heap.size < nb := by omega
 have HX := Lib.hid (And.intro hro2 (And.intro hab2 (And.intro hqs2 hbw2)))
 clear hnb hbw1
 have HRD : Hid (readA 98 (some l) = (zA, some l)) := Lib.hid (by unfold readA; rw [if_neg (by decide), if_neg (by decide), if_neg (by decide), if_neg (by decide), if_neg (by decide)])
 have hd0 : 0 < l.length → d0 ≠ w.heap.size := fun hp e => by have := (HV0.out.lt hp); omega
 have hab4 := hab2
 have hro4 := hro2
 have hbw4 := hbw2
 clear hro2 hab2 hqs2 hbw2
 go_upto_region 20 with fail
 generalize wV : W2 = V at *
 have hN : (0 : Nat) ≤ l.length := Nat.zero_le _
 obtain ⟨N, hNe⟩ : ∃ N : Nat, N = 0 := ⟨_, rfl⟩
 have HNE := Lib.hid hNe
 clear wV hNe
 obtain ⟨rv, r, hrs, hrl, hre⟩ : ∃ rv r, Shows V d0 rv r ∧ r.length ≤ l.length ∧ r = l := ⟨_, l, HVK.out _ hbw4, Nat.le_refl _, rfl⟩
 have HEE : ∃ a A c dq v0 v1 v2 v3 v4, TkZ w V nb a A c dq v0 v1 v2 v3 v4 ∧ a = zA ∧ a.q.length ≤ 1100 := ⟨zA, none, 0, 0, _, _, _, _, _, ⟨⟨_, _, _, _, _, hro4⟩, hab4, hnw, showsA_plain _ zA rfl rfl sizeA_z, hbw4⟩, rfl, Nat.zero_le _⟩
 obtain ⟨a, A, c, dq, v0, v1, v2, v3, v4, hE, hae, hq11⟩ := HEE
 have HSP : Hid (a = zA) := Lib.hid hae
 obtain ⟨xk, xn, xs, xa, xb, xc, xd, xe, xf, hxx⟩ := hE.sh.v.cells5
 simp only [List.cons.injEq, and_true] at hxx
 obtain ⟨rfl, rfl, rfl, rfl, rfl⟩ := hxx
 have HE := Lib.hid hE
 clear hE hae hab4 hro4 hbw4 hrs hre hrl
 have hk := HE.out
 obtain ⟨u0, u1, u2, u3, u4, hro⟩ := hk.ro
 obtain ⟨⟨q0, q1, q2⟩, ⟨q3, q4, q5⟩, q6, q7, q8, q9, q10, q11⟩ := hro.cells
 obtain ⟨⟨p0, p1, p2⟩, ⟨p3, p4, p5⟩, p6, p7, p8, p9, p10, p11⟩ := hk.ab.cells
 have f0 := hro.fr 0
 have f1 := hro.fr 1
 have f2 := hro.fr 2
 have f3 := hro.fr 3
 have f4 := hro.fr 4
 have f5 := hro.fr 5
 have f6 := hro.fr 6
 have f7 := hro.fr 7
 have f8 := hro.fr 8
 have f9 := hro.fr 9
 have f10 := hro.fr 10
 have f11 := hro.fr 11
 have ne1 : ¬ nb = w.heap.size := by omega
 have ne2 : ¬ w.heap.size = nb := by omega
 have HD := Lib.hid hk.done
 unfold set12 at HD
 obtain ⟨ai, an, az, af, ag, ah, aq, av⟩ := a
 dsimp only at HD p0 p1 p2 p3 p4 p5 p6 q0 q1 q2 q3 q4 q5 hq11
 clear hk hro
 go_region
 all_goals
  have hd := HD.out
  clear p0 p1 p2 p3 p4 p5 p6 p7 p8 p9 p10 p11 q0 q1 q2 q3 q4 q5 q6 q7 q8 q9 q10 q11 f0 f1 f2 f3 f4 f5 f6 f7 f8 f9 f10 f11 ne1 ne2
  generalize World.setCell _ ⟨w.heap.size, 11, none⟩ _ = W11 at *
  have HD := Lib.hid hd
  clear hd
  go_wp2_with fail
  refine bodyPost_ret (mt_results rfl _ _ w.heap.size 52 _ (0, 0) _ rfl HD.out.1 Tryz.underlying52 rfl (by kernel_rfl)) rfl ?_
  exact ⟨⟨ai, an, az, af, ag, ah, aq, av⟩, A, c, dq, _, _, _, _, _, _, d0, l, rfl, (by first | exact HD.out.2.1 | exact HD.out.2.1.sub (low_out_drew _ _)), HVK.out _ (by first | exact HD.out.2.2 | exact below_drew1 HD.out.2.2), Nat.le_refl _, hq11, (by first | exact HD.out.2.2 | exact below_drew1 HD.out.2.2), fun r' hr' => (by
   rw [HRD.out] at hr' ⊢
   cases hr'
   exact ⟨HSP.out, rfl⟩), .inl rfl⟩
set_option maxRecDepth 100000 in
set_option maxHeartbeats 4000000 in
theorem take_110 (l : List UInt8) (v : Value) (d0 : Nat) (w : World) (hv : Shows w d0 v l) (hl : l.length ≤ 20000) :
    Calls Tryz.prog 30 #[.int .u8 (110 : Nat), v] w (TakeSaid 110 l d0 w) := by
  obtain ⟨A0, c0, rfl, hlc, hcm, _⟩ := id hv
  obtain ⟨W0, hW0⟩ : ∃ W0, W0 = w.alloc (Obj.cells #[.bool false, .int .u64 0, .string ⟨#[]⟩, .int .u32 0, .string ⟨#[]⟩, .string ⟨#[]⟩, .slice none 0 0, .int .u8 0, .int .u64 0, .string ⟨#[]⟩, .slice none 0 0, .slice none 0 0] 52) := ⟨_, rfl⟩
  have hb0 : Below w.heap.size w W0 := by rw [hW0]; exact below_box w _
  have hs0 : W0.heap.size = w.heap.size + 1 := by rw [hW0]; simp
  have HV0 := Lib.hid hv
  have HVK := Lib.hid (fun w' (hb : Below w.heap.size w w') => shows_kept hv hb)
  have HO := Lib.hid (qopen_any _ l d0 W0 (shows_kept hv hb0) (by omega))
  have HW0 := Lib.hid hW0
  have HS0 := Lib.hid (And.intro hs0 hb0)
  clear hW0 hb0 hs0 hv
  go_enter Tryz.func30, Tryz.ntmps30
  go_upto_region 1 with fail
  rw [← HW0.out]
  go_wp2_with fail
  refine HO.out.mono ?_
  rintro e w1 ⟨g, d1, rfl, hqs, hg, ⟨hd1, hd2⟩, hb1⟩
  have hB1 : Below (w.heap.size + 1) (w.alloc (Obj.cells #[.bool false, .int .u64 0, .string ⟨#[]⟩, .int .u32 0, .string ⟨#[]⟩, .string ⟨#[]⟩, .slice none 0 0, .int .u8 0, .int .u64 0, .string ⟨#[]⟩, .slice none 0 0, .slice none 0 0] 52)) w1 := by rw [← HW0.out, ← HS0.out.1]; exact hb1
  obtain ⟨hro1, hbw1⟩ := take_boxes w w1 hB1
  have hg1 : w.heap.size + 1 ≤ g := by rw [← HS0.out.1]; exact hg
  have hdd : w.heap.size + 1 ≤ d1 := by rw [← HS0.out.1]; exact hd1
  have hgl : g < w1.heap.size := hqs.lt
  have hbA : Below w1.heap.size w1 (w1.alloc (Obj.cells #[.bool false, .int .u64 0, .string ⟨#[]⟩, .int .u32 0, .string ⟨#[]⟩, .string ⟨#[]⟩, .slice none 0 0, .int .u8 0, .int .u64 0, .string ⟨#[]⟩, .slice none 0 0, .slice none 0 0] 52)) := below_box w1 _
  have hab2 := BoxG.zero w1
  have hro2 := hro1.kept hbA (Nat.le_refl _)
  have hqs2 : QS (w1.alloc (Obj.cells #[.bool false, .int .u64 0, .string ⟨#[]⟩, .int .u32 0, .string ⟨#[]⟩, .string ⟨#[]⟩, .slice none 0 0, .int .u8 0, .int .u64 0, .string ⟨#[]⟩, .slice none 0 0, .slice none 0 0] 52)) g d1 (some l) := hqs.keep hbA.size (hbA.block g hgl) (fun h => hbA.block d1 h)
  have hbw2 := hbw1.trans (hbA.mono hbw1.size)
  have hnb2 : w1.heap.size < (w1.alloc (Obj.cells #[.bool false, .int .u64 0, .string ⟨#[]⟩, .int .u32 0, .string ⟨#[]⟩, .string ⟨#[]⟩, .slice none 0 0, .int .u8 0, .int .u64 0, .string ⟨#[]⟩, .slice none 0 0, .slice none 0 0] 52)).heap.size := by simp
  clear hqs hg hd1 hb1 hB1 hro1 hbA
  go_upto_region 4 with fail
  generalize w1.alloc _ = W2 at *
  obtain ⟨nb, hnb⟩ : ∃ nb, nb = w1.heap.size := ⟨_, rfl⟩
  rw [← hnb] at hab2 hnb2 hgl ⊢
  have hng : g < nb := hgl
  have hnw : w.heap.size < nb := by omega
  have HX := Lib.hid (And.intro hro2 (And.intro hab2 (And.intro hqs2 hbw2)))
  clear hnb hbw1
  have HWD := Lib.hid (fun w' => (show Calls Tryz.prog 44 #[.int .u8 (110 : Nat)] w' fun e w'' => e = .returned (.int .i64 1) ∧ w'' = w' from qwidth_any 110 (by omega) w'))
  have HN := Lib.hid (show Calls Tryz.prog 62 #[.pointer (some ⟨g, 0, none⟩), .int .i64 1] W2 fun e w' => e = .returned (.int .u64 (numS 1 (some l)).1) ∧ QS w' g d1 (numS 1 (some l)).2 ∧ W2.grownBy w' (some g) from qnum_any g d1 (some l) 1 W2 hqs2 (by simp [lenS]; omega))
  have hlt := numS_lt 1 (some l)
  have hlS := numS_lenS 1 (some l)
  have HRD : Hid (readA 110 (some l) = ({ zA with n := (numS 1 (some l)).1 }, (numS 1 (some l)).2)) := Lib.hid (by unfold readA; rw [if_pos (by decide)]; rfl)
  generalize numS 1 (some l) = R at *
  obtain ⟨N, s⟩ := R
  dsimp only at HN hlt hlS HRD
  clear hro2 hab2 hqs2 hbw2
  go_upto_region 9 with (first
    | (go_at_call 44; refine (HWD.out _).mono ?_; rintro e wd ⟨rfl, rfl⟩)
    | (go_at_call 62; refine HN.out.mono ?_; rintro e w3 ⟨rfl, hqs3, hg3⟩
       have hab3 : BoxG w3 nb zA (.slice none 0 0) (.int .u8 (0 : Nat)) (.int .u64 (0 : Nat)) (.string ⟨#[]⟩) (.slice none 0 0) (.slice none 0 0) := (hg3.block nb (by omega) (fun e => by cases e; omega)).trans HX.out.2.1
       have hro3 : BoxG w3 w.heap.size zA (.slice none 0 0) (.int .u8 (0 : Nat)) (.int .u64 (0 : Nat)) (.string ⟨#[]⟩) (.slice none 0 0) (.slice none 0 0) := (hg3.block w.heap.size (by omega) (fun e => by cases e; omega)).trans HX.out.1
       have hbw3 : Below w.heap.size w w3 := HX.out.2.2.2.trans (below_of_grown hg3 (by omega) HX.out.2.2.2.size)
       have c1 := hab3.cells.1.2.1
       have fr1 := hab3.fr 1))
  have hl1 : w.heap.size ≠ nb := by omega
  have hl2 : g ≠ nb := by omega
  have hl3 : d1 ≠ nb := by omega
  have hab4 := hab3.setN N
  have hro4 : BoxG (w3.setCell ⟨nb, 1, none⟩ (.int .u64 (N : Nat))) w.heap.size zA (.slice none 0 0) (.int .u8 (0 : Nat)) (.int .u64 (0 : Nat)) (.string ⟨#[]⟩) (.slice none 0 0) (.slice none 0 0) := (Below.heap_setCell _ _ _ _ hl1).trans hro3
  have hqs4 : QS (w3.setCell ⟨nb, 1, none⟩ (.int .u64 (N : Nat))) g d1 s := hqs3.keep (by simp) (Below.heap_setCell _ _ _ _ hl2) (fun _ => Below.heap_setCell _ _ _ _ hl3)
  have hbw4 : Below w.heap.size w (w3.setCell ⟨nb, 1, none⟩ (.int .u64 (N : Nat))) := hbw3.setCell (by show w.heap.size ≤ nb; omega) _
  have hsz : SizeA { zA with n := N } := ⟨hlt, sizeA_z.f, sizeA_z.u, sizeA_z.s, sizeA_z.g, sizeA_z.h, sizeA_z.q⟩
  generalize w3.setCell _ _ = V at *
  obtain ⟨rv, r, hrc, hrs, hrl, hre⟩ := reader_rest hqs4
  have hrl2 : r.length ≤ l.length := Nat.le_trans hrl hlS
  have HEE : ∃ a A c dq v0 v1 v2 v3 v4, TkW w V nb a A c dq v0 v1 v2 v3 v4 rv d1 r ∧ a = { zA with n := N } ∧ a.q.length ≤ 1100 := ⟨{ zA with n := N }, none, 0, 0, _, _, _, _, _, ⟨⟨_, _, _, _, _, hro4⟩, hab4, hnw, showsA_plain _ _ rfl rfl hsz, hrs, by omega, hbw4⟩, rfl, Nat.zero_le _⟩
  obtain ⟨a, A, c, dq, v0, v1, v2, v3, v4, hE, hae, hq11⟩ := HEE
  have HSP : Hid (∀ r', (readA 110 (some l)).2 = some r' → a = (readA 110 (some l)).1 ∧ r = r') := Lib.hid (fun r' hr' => by
    rw [HRD.out] at hr' ⊢
    exact ⟨hae, hre r' hr'⟩)
  obtain ⟨xk, xn, xs, xa, xb, xc, xd, xe, xf, hxx⟩ := hE.sh.v.cells5
  simp only [List.cons.injEq, and_true] at hxx
  obtain ⟨rfl, rfl, rfl, rfl, rfl⟩ := hxx
  have HE := Lib.hid hE
  have hrl := hrl2
  clear hE hae hab4 hro4 hqs4 hbw4 hsz hab3 hro3 hqs3 hbw3 hg3 c1 fr1 hre hrs hrl2 HRD hlS
  have hk := HE.out
  obtain ⟨u0, u1, u2, u3, u4, hro⟩ := hk.ro
  obtain ⟨⟨q0, q1, q2⟩, ⟨q3, q4, q5⟩, q6, q7, q8, q9, q10, q11⟩ := hro.cells
  obtain ⟨⟨p0, p1, p2⟩, ⟨p3, p4, p5⟩, p6, p7, p8, p9, p10, p11⟩ := hk.ab.cells
  have f0 := hro.fr 0
  have f1 := hro.fr 1
  have f2 := hro.fr 2
  have f3 := hro.fr 3
  have f4 := hro.fr 4
  have f5 := hro.fr 5
  have f6 := hro.fr 6
  have f7 := hro.fr 7
  have f8 := hro.fr 8
  have f9 := hro.fr 9
  have f10 := hro.fr 10
  have f11 := hro.fr 11
  have ne1 : ¬ nb = w.heap.size := by omega
  have ne2 : ¬ w.heap.size = nb := by omega
  have HD := Lib.hid hk.done
  unfold set12 at HD
  obtain ⟨ai, an, az, af, ag, ah, aq, av⟩ := a
  dsimp only at HD p0 p1 p2 p3 p4 p5 p6 q0 q1 q2 q3 q4 q5 hq11
  clear hk hro
  go_region
  all_goals
    have hd := HD.out
    clear p0 p1 p2 p3 p4 p5 p6 p7 p8 p9 p10 p11 q0 q1 q2 q3 q4 q5 q6 q7 q8 q9 q10 q11 f0 f1 f2 f3 f4 f5 f6 f7 f8 f9 f10 f11 ne1 ne2
    generalize World.setCell _ ⟨w.heap.size, 11, none⟩ _ = W11 at *
    have HD := Lib.hid hd
    clear hd
    go_wp2_with fail
    refine bodyPost_ret (mt_results rfl _ _ w.heap.size 52 _ (0, 0) _ rfl HD.out.1 Tryz.underlying52 rfl (by kernel_rfl)) rfl ?_
    exact ⟨⟨ai, an, az, af, ag, ah, aq, av⟩, A, c, dq, _, _, _, _, _, _, d1, r, rfl, (by first | exact HD.out.2.1 | exact HD.out.2.1.sub (low_out_drew _ _)), (by first | exact HD.out.2.2.1 | exact HD.out.2.2.1.drew), hrl, hq11, (by first | exact HD.out.2.2.2 | exact below_drew1 HD.out.2.2.2), HSP.out, .inr (by omega)⟩
set_option maxRecDepth 100000 in
set_option maxHeartbeats 4000000 in
theorem take_119 (l : List UInt8) (v : Value) (d0 : Nat) (w : World) (hv : Shows w d0 v l) (hl : l.length ≤ 20000) :
    Calls Tryz.prog 30 #[.int .u8 (119 : Nat), v] w (TakeSaid 119 l d0 w) := by
  obtain ⟨A0, c0, rfl, hlc, hcm, _⟩ := id hv
  obtain ⟨W0, hW0⟩ : ∃ W0, W0 = w.alloc (Obj.cells #[.bool false, .int .u64 0, .string ⟨#[]⟩, .int .u32 0, .string ⟨#[]⟩, .string ⟨#[]⟩, .slice none 0 0, .int .u8 0, .int .u64 0, .string ⟨#[]⟩, .slice none 0 0, .slice none 0 0] 52) := ⟨_, rfl⟩
  have hb0 : Below w.heap.size w W0 := by rw [hW0]; exact below_box w _
  have hs0 : W0.heap.size = w.heap.size + 1 := by rw [hW0]; simp
  have HV0 := Lib.hid hv
  have HVK := Lib.hid (fun w' (hb : Below w.heap.size w w') => shows_kept hv hb)
  have HO := Lib.hid (qopen_any _ l d0 W0 (shows_kept hv hb0) (by omega))
  have HW0 := Lib.hid hW0
  have HS0 := Lib.hid (And.intro hs0 hb0)
  clear hW0 hb0 hs0 hv
  go_enter Tryz.func30, Tryz.ntmps30
  go_upto_region 1 with fail
  rw [← HW0.out]
  go_wp2_with fail
  refine HO.out.mono ?_
  rintro e w1 ⟨g, d1, rfl, hqs, hg, ⟨hd1, hd2⟩, hb1⟩
  have hB1 : Below (w.heap.size + 1) (w.alloc (Obj.cells #[.bool false, .int .u64 0, .string ⟨#[]⟩, .int .u32 0, .string ⟨#[]⟩, .string ⟨#[]⟩, .slice none 0 0, .int .u8 0, .int .u64 0, .string ⟨#[]⟩, .slice none 0 0, .slice none 0 0] 52)) w1 := by rw [← HW0.out, ← HS0.out.1]; exact hb1
  obtain ⟨hro1, hbw1⟩ := take_boxes w w1 hB1
  have hg1 : w.heap.size + 1 ≤ g := by rw [← HS0.out.1]; exact hg
  have hdd : w.heap.size + 1 ≤ d1 := by rw [← HS0.out.1]; exact hd1
  have hgl : g < w1.heap.size := hqs.lt
  have hbA : Below w1.heap.size w1 (w1.alloc (Obj.cells #[.bool false, .int .u64 0, .string ⟨#[]⟩, .int .u32 0, .string ⟨#[]⟩, .string ⟨#[]⟩, .slice none 0 0, .int .u8 0, .int .u64 0, .string ⟨#[]⟩, .slice none 0 0, .slice none 0 0] 52)) := below_box w1 _
  have hab2 := BoxG.zero w1
  have hro2 := hro1.kept hbA (Nat.le_refl _)
  have hqs2 : QS (w1.alloc (Obj.cells #[.bool false, .int .u64 0, .string ⟨#[]⟩, .int .u32 0, .string ⟨#[]⟩, .string ⟨#[]⟩, .slice none 0 0, .int .u8 0, .int .u64 0, .string ⟨#[]⟩, .slice none 0 0, .slice none 0 0] 52)) g d1 (some l) := hqs.keep hbA.size (hbA.block g hgl) (fun h => hbA.block d1 h)
  have hbw2 := hbw1.trans (hbA.mono hbw1.size)
  have hnb2 : w1.heap.size < (w1.alloc (Obj.cells #[.bool false, .int .u64 0, .string ⟨#[]⟩, .int .u32 0, .string ⟨#[]⟩, .string ⟨#[]⟩, .slice none 0 0, .int .u8 0, .int .u64 0, .string ⟨#[]⟩, .slice none 0 0, .slice none 0 0] 52)).heap.size := by simp
  clear hqs hg hd1 hb1 hB1 hro1 hbA
  go_upto_region 4 with fail
  generalize w1.alloc _ = W2 at *
  obtain ⟨nb, hnb⟩ : ∃ nb, nb = w1.heap.size := ⟨_, rfl⟩
  rw [← hnb] at hab2 hnb2 hgl ⊢
  have hng : g < nb := hgl
  have hnw : w.heap.size < nb := by omega
  have HX := Lib.hid (And.intro hro2 (And.intro hab2 (And.intro hqs2 hbw2)))
  clear hnb hbw1
  have HWD := Lib.hid (fun w' => (show Calls Tryz.prog 44 #[.int .u8 (119 : Nat)] w' fun e w'' => e = .returned (.int .i64 2) ∧ w'' = w' from qwidth_any 119 (by omega) w'))
  have HN := Lib.hid (show Calls Tryz.prog 62 #[.pointer (some ⟨g, 0, none⟩), .int .i64 2] W2 fun e w' => e = .returned (.int .u64 (numS 2 (some l)).1) ∧ QS w' g d1 (numS 2 (some l)).2 ∧ W2.grownBy w' (some g) from qnum_any g d1 (some l) 2 W2 hqs2 (by simp [lenS]; omega))
  have hlt := numS_lt 2 (some l)
  have hlS := numS_lenS 2 (some l)
  have HRD : Hid (readA 119 (some l) = ({ zA with n := (numS 2 (some l)).1 }, (numS 2 (some l)).2)) := Lib.hid (by unfold readA; rw [if_pos (by decide)]; rfl)
  generalize numS 2 (some l) = R at *
  obtain ⟨N, s⟩ := R
  dsimp only at HN hlt hlS HRD
  clear hro2 hab2 hqs2 hbw2
  go_upto_region 9 with (first
    | (go_at_call 44; refine (HWD.out _).mono ?_; rintro e wd ⟨rfl, rfl⟩)
    | (go_at_call 62; refine HN.out.mono ?_; rintro e w3 ⟨rfl, hqs3, hg3⟩
       have hab3 : BoxG w3 nb zA (.slice none 0 0) (.int .u8 (0 : Nat)) (.int .u64 (0 : Nat)) (.string ⟨#[]⟩) (.slice none 0 0) (.slice none 0 0) := (hg3.block nb (by omega) (fun e => by cases e; omega)).trans HX.out.2.1
       have hro3 : BoxG w3 w.heap.size zA (.slice none 0 0) (.int .u8 (0 : Nat)) (.int .u64 (0 : Nat)) (.string ⟨#[]⟩) (.slice none 0 0) (.slice none 0 0) := (hg3.block w.heap.size (by omega) (fun e => by cases e; omega)).trans HX.out.1
       have hbw3 : Below w.heap.size w w3 := HX.out.2.2.2.trans (below_of_grown hg3 (by omega) HX.out.2.2.2.size)
       have c1 := hab3.cells.1.2.1
       have fr1 := hab3.fr 1))
  have hl1 : w.heap.size ≠ nb := by omega
  have hl2 : g ≠ nb := by omega
  have hl3 : d1 ≠ nb := by omega
  have hab4 := hab3.setN N
  have hro4 : BoxG (w3.setCell ⟨nb, 1, none⟩ (.int .u64 (N : Nat))) w.heap.size zA (.slice none 0 0) (.int .u8 (0 : Nat)) (.int .u64 (0 : Nat)) (.string ⟨#[]⟩) (.slice none 0 0) (.slice none 0 0) := (Below.heap_setCell _ _ _ _ hl1).trans hro3
  have hqs4 : QS (w3.setCell ⟨nb, 1, none⟩ (.int .u64 (N : Nat))) g d1 s := hqs3.keep (by simp) (Below.heap_setCell _ _ _ _ hl2) (fun _ => Below.heap_setCell _ _ _ _ hl3)
  have hbw4 : Below w.heap.size w (w3.setCell ⟨nb, 1, none⟩ (.int .u64 (N : Nat))) := hbw3.setCell (by show w.heap.size ≤ nb; omega) _
  have hsz : SizeA { zA with n := N } := ⟨hlt, sizeA_z.f, sizeA_z.u, sizeA_z.s, sizeA_z.g, sizeA_z.h, sizeA_z.q⟩
  generalize w3.setCell _ _ = V at *
  obtain ⟨rv, r, hrc, hrs, hrl, hre⟩ := reader_rest hqs4
  have hrl2 : r.length ≤ l.length := Nat.le_trans hrl hlS
  have HEE : ∃ a A c dq v0 v1 v2 v3 v4, TkW w V nb a A c dq v0 v1 v2 v3 v4 rv d1 r ∧ a = { zA with n := N } ∧ a.q.length ≤ 1100 := ⟨{ zA with n := N }, none, 0, 0, _, _, _, _, _, ⟨⟨_, _, _, _, _, hro4⟩, hab4, hnw, showsA_plain _ _ rfl rfl hsz, hrs, by omega, hbw4⟩, rfl, Nat.zero_le _⟩
  obtain ⟨a, A, c, dq, v0, v1, v2, v3, v4, hE, hae, hq11⟩ := HEE
  have HSP : Hid (∀ r', (readA 119 (some l)).2 = some r' → a = (readA 119 (some l)).1 ∧ r = r') := Lib.hid (fun r' hr' => by
    rw [HRD.out] at hr' ⊢
    exact ⟨hae, hre r' hr'⟩)
  obtain ⟨xk, xn, xs, xa, xb, xc, xd, xe, xf, hxx⟩ := hE.sh.v.cells5
  simp only [List.cons.injEq, and_true] at hxx
  obtain ⟨rfl, rfl, rfl, rfl, rfl⟩ := hxx
  have HE := Lib.hid hE
  have hrl := hrl2
  clear hE hae hab4 hro4 hqs4 hbw4 hsz hab3 hro3 hqs3 hbw3 hg3 c1 fr1 hre hrs hrl2 HRD hlS
  have hk := HE.out
  obtain ⟨u0, u1, u2, u3, u4, hro⟩ := hk.ro
  obtain ⟨⟨q0, q1, q2⟩, ⟨q3, q4, q5⟩, q6, q7, q8, q9, q10, q11⟩ := hro.cells
  obtain ⟨⟨p0, p1, p2⟩, ⟨p3, p4, p5⟩, p6, p7, p8, p9, p10, p11⟩ := hk.ab.cells
  have f0 := hro.fr 0
  have f1 := hro.fr 1
  have f2 := hro.fr 2
  have f3 := hro.fr 3
  have f4 := hro.fr 4
  have f5 := hro.fr 5
  have f6 := hro.fr 6
  have f7 := hro.fr 7
  have f8 := hro.fr 8
  have f9 := hro.fr 9
  have f10 := hro.fr 10
  have f11 := hro.fr 11
  have ne1 : ¬ nb = w.heap.size := by omega
  have ne2 : ¬ w.heap.size = nb := by omega
  have HD := Lib.hid hk.done
  unfold set12 at HD
  obtain ⟨ai, an, az, af, ag, ah, aq, av⟩ := a
  dsimp only at HD p0 p1 p2 p3 p4 p5 p6 q0 q1 q2 q3 q4 q5 hq11
  clear hk hro
  go_region
  all_goals
    have hd := HD.out
    clear p0 p1 p2 p3 p4 p5 p6 p7 p8 p9 p10 p11 q0 q1 q2 q3 q4 q5 q6 q7 q8 q9 q10 q11 f0 f1 f2 f3 f4 f5 f6 f7 f8 f9 f10 f11 ne1 ne2
    generalize World.setCell _ ⟨w.heap.size, 11, none⟩ _ = W11 at *
    have HD := Lib.hid hd
    clear hd
    go_wp2_with fail
    refine bodyPost_ret (mt_results rfl _ _ w.heap.size 52 _ (0, 0) _ rfl HD.out.1 Tryz.underlying52 rfl (by kernel_rfl)) rfl ?_
    exact ⟨⟨ai, an, az, af, ag, ah, aq, av⟩, A, c, dq, _, _, _, _, _, _, d1, r, rfl, (by first | exact HD.out.2.1 | exact HD.out.2.1.sub (low_out_drew _ _)), (by first | exact HD.out.2.2.1 | exact HD.out.2.2.1.drew), hrl, hq11, (by first | exact HD.out.2.2.2 | exact below_drew1 HD.out.2.2.2), HSP.out, .inr (by omega)⟩
set_option maxRecDepth 100000 in
set_option maxHeartbeats 4000000 in
theorem take_100 (l : List UInt8) (v : Value) (d0 : Nat) (w : World) (hv : Shows w d0 v l) (hl : l.length ≤ 20000) :
    Calls Tryz.prog 30 #[.int .u8 (100 : Nat), v] w (TakeSaid 100 l d0 w) := by
  obtain ⟨A0, c0, rfl, hlc, hcm, _⟩ := id hv
  obtain ⟨W0, hW0⟩ : ∃ W0, W0 = w.alloc (Obj.cells #[.bool false, .int .u64 0, .string ⟨#[]⟩, .int .u32 0, .string ⟨#[]⟩, .string ⟨#[]⟩, .slice none 0 0, .int .u8 0, .int .u64 0, .string ⟨#[]⟩, .slice none 0 0, .slice none 0 0] 52) := ⟨_, rfl⟩
  have hb0 : Below w.heap.size w W0 := by rw [hW0]; exact below_box w _
  have hs0 : W0.heap.size = w.heap.size + 1 := by rw [hW0]; simp
  have HV0 := Lib.hid hv
  have HVK := Lib.hid (fun w' (hb : Below w.heap.size w w') => shows_kept hv hb)
  have HO := Lib.hid (qopen_any _ l d0 W0 (shows_kept hv hb0) (by omega))
  have HW0 := Lib.hid hW0
  have HS0 := Lib.hid (And.intro hs0 hb0)
  clear hW0 hb0 hs0 hv
  go_enter Tryz.func30, Tryz.ntmps30
  go_upto_region 1 with fail
  rw [← HW0.out]
  go_wp2_with fail
  refine HO.out.mono ?_
  rintro e w1 ⟨g, d1, rfl, hqs, hg, ⟨hd1, hd2⟩, hb1⟩
  have hB1 : Below (w.heap.size + 1) (w.alloc (Obj.cells #[.bool false, .int .u64 0, .string ⟨#[]⟩, .int .u32 0, .string ⟨#[]⟩, .string ⟨#[]⟩, .slice none 0 0, .int .u8 0, .int .u64 0, .string ⟨#[]⟩, .slice none 0 0, .slice none 0 0] 52)) w1 := by rw [← HW0.out, ← HS0.out.1]; exact hb1
  obtain ⟨hro1, hbw1⟩ := take_boxes w w1 hB1
  have hg1 : w.heap.size + 1 ≤ g := by rw [← HS0.out.1]; exact hg
  have hdd : w.heap.size + 1 ≤ d1 := by rw [← HS0.out.1]; exact hd1
  have hgl : g < w1.heap.size := hqs.lt
  have hbA : Below w1.heap.size w1 (w1.alloc (Obj.cells #[.bool false, .int .u64 0, .string ⟨#[]⟩, .int .u32 0, .string ⟨#[]⟩, .string ⟨#[]⟩, .slice none 0 0, .int .u8 0, .int .u64 0, .string ⟨#[]⟩, .slice none 0 0, .slice none 0 0] 52)) := below_box w1 _
  have hab2 := BoxG.zero w1
  have hro2 := hro1.kept hbA (Nat.le_refl _)
  have hqs2 : QS (w1.alloc (Obj.cells #[.bool false, .int .u64 0, .string ⟨#[]⟩, .int .u32 0, .string ⟨#[]⟩, .string ⟨#[]⟩, .slice none 0 0, .int .u8 0, .int .u64 0, .string ⟨#[]⟩, .slice none 0 0, .slice none 0 0] 52)) g d1 (some l) := hqs.keep hbA.size (hbA.block g hgl) (fun h => hbA.block d1 h)
  have hbw2 := hbw1.trans (hbA.mono hbw1.size)
  have hnb2 : w1.heap.size < (w1.alloc (Obj.cells #[.bool false, .int .u64 0, .string ⟨#[]⟩, .int .u32 0, .string ⟨#[]⟩, .string ⟨#[]⟩, .slice none 0 0, .int .u8 0, .int .u64 0, .string ⟨#[]⟩, .slice none 0 0, .slice none 0 0] 52)).heap.size := by simp
  clear hqs hg hd1 hb1 hB1 hro1 hbA
  go_upto_region 4 with fail
  generalize w1.alloc _ = W2 at *
  obtain ⟨nb, hnb⟩ : ∃ nb, nb = w1.heap.size := ⟨_, rfl⟩
  rw [← hnb] at hab2 hnb2 hgl ⊢
  have hng : g < nb := hgl
  have hnw : w.heap.size < nb := by omega
  have HX := Lib.hid (And.intro hro2 (And.intro hab2 (And.intro hqs2 hbw2)))
  clear hnb hbw1
  have HWD := Lib.hid (fun w' => (show Calls Tryz.prog 44 #[.int .u8 (100 : Nat)] w' fun e w'' => e = .returned (.int .i64 4) ∧ w'' = w' from qwidth_any 100 (by omega) w'))
  have HN := Lib.hid (show Calls Tryz.prog 62 #[.pointer (some ⟨g, 0, none⟩), .int .i64 4] W2 fun e w' => e = .returned (.int .u64 (numS 4 (some l)).1) ∧ QS w' g d1 (numS 4 (some l)).2 ∧ W2.grownBy w' (some g) from qnum_any g d1 (some l) 4 W2 hqs2 (by simp [lenS]; omega))
  have hlt := numS_lt 4 (some l)
  have hlS := numS_lenS 4 (some l)
  have HRD : Hid (readA 100 (some l) = ({ zA with n := (numS 4 (some l)).1 }, (numS 4 (some l)).2)) := Lib.hid (by unfold readA; rw [if_pos (by decide)]; rfl)
  generalize numS 4 (some l) = R at *
  obtain ⟨N, s⟩ := R
  dsimp only at HN hlt hlS HRD
  clear hro2 hab2 hqs2 hbw2
  go_upto_region 9 with (first
    | (go_at_call 44; refine (HWD.out _).mono ?_; rintro e wd ⟨rfl, rfl⟩)
    | (go_at_call 62; refine HN.out.mono ?_; rintro e w3 ⟨rfl, hqs3, hg3⟩
       have hab3 : BoxG w3 nb zA (.slice none 0 0) (.int .u8 (0 : Nat)) (.int .u64 (0 : Nat)) (.string ⟨#[]⟩) (.slice none 0 0) (.slice none 0 0) := (hg3.block nb (by omega) (fun e => by cases e; omega)).trans HX.out.2.1
       have hro3 : BoxG w3 w.heap.size zA (.slice none 0 0) (.int .u8 (0 : Nat)) (.int .u64 (0 : Nat)) (.string ⟨#[]⟩) (.slice none 0 0) (.slice none 0 0) := (hg3.block w.heap.size (by omega) (fun e => by cases e; omega)).trans HX.out.1
       have hbw3 : Below w.heap.size w w3 := HX.out.2.2.2.trans (below_of_grown hg3 (by omega) HX.out.2.2.2.size)
       have c1 := hab3.cells.1.2.1
       have fr1 := hab3.fr 1))
  have hl1 : w.heap.size ≠ nb := by omega
  have hl2 : g ≠ nb := by omega
  have hl3 : d1 ≠ nb := by omega
  have hab4 := hab3.setN N
  have hro4 : BoxG (w3.setCell ⟨nb, 1, none⟩ (.int .u64 (N : Nat))) w.heap.size zA (.slice none 0 0) (.int .u8 (0 : Nat)) (.int .u64 (0 : Nat)) (.string ⟨#[]⟩) (.slice none 0 0) (.slice none 0 0) := (Below.heap_setCell _ _ _ _ hl1).trans hro3
  have hqs4 : QS (w3.setCell ⟨nb, 1, none⟩ (.int .u64 (N : Nat))) g d1 s := hqs3.keep (by simp) (Below.heap_setCell _ _ _ _ hl2) (fun _ => Below.heap_setCell _ _ _ _ hl3)
  have hbw4 : Below w.heap.size w (w3.setCell ⟨nb, 1, none⟩ (.int .u64 (N : Nat))) := hbw3.setCell (by show w.heap.size ≤ nb; omega) _
  have hsz : SizeA { zA with n := N } := ⟨hlt, sizeA_z.f, sizeA_z.u, sizeA_z.s, sizeA_z.g, sizeA_z.h, sizeA_z.q⟩
  generalize w3.setCell _ _ = V at *
  obtain ⟨rv, r, hrc, hrs, hrl, hre⟩ := reader_rest hqs4
  have hrl2 : r.length ≤ l.length := Nat.le_trans hrl hlS
  have HEE : ∃ a A c dq v0 v1 v2 v3 v4, TkW w V nb a A c dq v0 v1 v2 v3 v4 rv d1 r ∧ a = { zA with n := N } ∧ a.q.length ≤ 1100 := ⟨{ zA with n := N }, none, 0, 0, _, _, _, _, _, ⟨⟨_, _, _, _, _, hro4⟩, hab4, hnw, showsA_plain _ _ rfl rfl hsz, hrs, by omega, hbw4⟩, rfl, Nat.zero_le _⟩
  obtain ⟨a, A, c, dq, v0, v1, v2, v3, v4, hE, hae, hq11⟩ := HEE
  have HSP : Hid (∀ r', (readA 100 (some l)).2 = some r' → a = (readA 100 (some l)).1 ∧ r = r') := Lib.hid (fun r' hr' => by
    rw [HRD.out] at hr' ⊢
    exact ⟨hae, hre r' hr'⟩)
  obtain ⟨xk, xn, xs, xa, xb, xc, xd, xe, xf, hxx⟩ := hE.sh.v.cells5
  simp only [List.cons.injEq, and_true] at hxx
  obtain ⟨rfl, rfl, rfl, rfl, rfl⟩ := hxx
  have HE := Lib.hid hE
  have hrl := hrl2
  clear hE hae hab4 hro4 hqs4 hbw4 hsz hab3 hro3 hqs3 hbw3 hg3 c1 fr1 hre hrs hrl2 HRD hlS
  have hk := HE.out
  obtain ⟨u0, u1, u2, u3, u4, hro⟩ := hk.ro
  obtain ⟨⟨q0, q1, q2⟩, ⟨q3, q4, q5⟩, q6, q7, q8, q9, q10, q11⟩ := hro.cells
  obtain ⟨⟨p0, p1, p2⟩, ⟨p3, p4, p5⟩, p6, p7, p8, p9, p10, p11⟩ := hk.ab.cells
  have f0 := hro.fr 0
  have f1 := hro.fr 1
  have f2 := hro.fr 2
  have f3 := hro.fr 3
  have f4 := hro.fr 4
  have f5 := hro.fr 5
  have f6 := hro.fr 6
  have f7 := hro.fr 7
  have f8 := hro.fr 8
  have f9 := hro.fr 9
  have f10 := hro.fr 10
  have f11 := hro.fr 11
  have ne1 : ¬ nb = w.heap.size := by omega
  have ne2 : ¬ w.heap.size = nb := by omega
  have HD := Lib.hid hk.done
  unfold set12 at HD
  obtain ⟨ai, an, az, af, ag, ah, aq, av⟩ := a
  dsimp only at HD p0 p1 p2 p3 p4 p5 p6 q0 q1 q2 q3 q4 q5 hq11
  clear hk hro
  go_region
  all_goals
    have hd := HD.out
    clear p0 p1 p2 p3 p4 p5 p6 p7 p8 p9 p10 p11 q0 q1 q2 q3 q4 q5 q6 q7 q8 q9 q10 q11 f0 f1 f2 f3 f4 f5 f6 f7 f8 f9 f10 f11 ne1 ne2
    generalize World.setCell _ ⟨w.heap.size, 11, none⟩ _ = W11 at *
    have HD := Lib.hid hd
    clear hd
    go_wp2_with fail
    refine bodyPost_ret (mt_results rfl _ _ w.heap.size 52 _ (0, 0) _ rfl HD.out.1 Tryz.underlying52 rfl (by kernel_rfl)) rfl ?_
    exact ⟨⟨ai, an, az, af, ag, ah, aq, av⟩, A, c, dq, _, _, _, _, _, _, d1, r, rfl, (by first | exact HD.out.2.1 | exact HD.out.2.1.sub (low_out_drew _ _)), (by first | exact HD.out.2.2.1 | exact HD.out.2.2.1.drew), hrl, hq11, (by first | exact HD.out.2.2.2 | exact below_drew1 HD.out.2.2.2), HSP.out, .inr (by omega)⟩
set_option maxRecDepth 100000 in
set_option maxHeartbeats 4000000 in
theorem take_115 (l : List UInt8) (v : Value) (d0 : Nat) (w : World) (hv : Shows w d0 v l) (hl : l.length ≤ 20000) :
    Calls Tryz.prog 30 #[.int .u8 (115 : Nat), v] w (TakeSaid 115 l d0 w) := by
  obtain ⟨A0, c0, rfl, hlc, hcm, _⟩ := id hv
  obtain ⟨W0, hW0⟩ : ∃ W0, W0 = w.alloc (Obj.cells #[.bool false, .int .u64 0, .string ⟨#[]⟩, .int .u32 0, .string ⟨#[]⟩, .string ⟨#[]⟩, .slice none 0 0, .int .u8 0, .int .u64 0, .string ⟨#[]⟩, .slice none 0 0, .slice none 0 0] 52) := ⟨_, rfl⟩
  have hb0 : Below w.heap.size w W0 := by rw [hW0]; exact below_box w _
  have hs0 : W0.heap.size = w.heap.size + 1 := by rw [hW0]; simp
  have HV0 := Lib.hid hv
  have HVK := Lib.hid (fun w' (hb : Below w.heap.size w w') => shows_kept hv hb)
  have HO := Lib.hid (qopen_any _ l d0 W0 (shows_kept hv hb0) (by omega))
  have HW0 := Lib.hid hW0
  have HS0 := Lib.hid (And.intro hs0 hb0)
  clear hW0 hb0 hs0 hv
  go_enter Tryz.func30, Tryz.ntmps30
  go_upto_region 1 with fail
  rw [← HW0.out]
  go_wp2_with fail
  refine HO.out.mono ?_
  rintro e w1 ⟨g, d1, rfl, hqs, hg, ⟨hd1, hd2⟩, hb1⟩
  have hB1 : Below (w.heap.size + 1) (w.alloc (Obj.cells #[.bool false, .int .u64 0, .string ⟨#[]⟩, .int .u32 0, .string ⟨#[]⟩, .string ⟨#[]⟩, .slice none 0 0, .int .u8 0, .int .u64 0, .string ⟨#[]⟩, .slice none 0 0, .slice none 0 0] 52)) w1 := by rw [← HW0.out, ← HS0.out.1]; exact hb1
  obtain ⟨hro1, hbw1⟩ := take_boxes w w1 hB1
  have hg1 : w.heap.size + 1 ≤ g := by rw [← HS0.out.1]; exact hg
  have hdd : w.heap.size + 1 ≤ d1 := by rw [← HS0.out.1]; exact hd1
  have hgl : g < w1.heap.size := hqs.lt
  have hbA : Below w1.heap.size w1 (w1.alloc (Obj.cells #[.bool false, .int .u64 0, .string ⟨#[]⟩, .int .u32 0, .string ⟨#[]⟩, .string ⟨#[]⟩, .slice none 0 0, .int .u8 0, .int .u64 0, .string ⟨#[]⟩, .slice none 0 0, .slice none 0 0] 52)) := below_box w1 _
  have hab2 := BoxG.zero w1
  have hro2 := hro1.kept hbA (Nat.le_refl _)
  have hqs2 : QS (w1.alloc (Obj.cells #[.bool false, .int .u64 0, .string ⟨#[]⟩, .int .u32 0, .string ⟨#[]⟩, .string ⟨#[]⟩, .slice none 0 0, .int .u8 0, .int .u64 0, .string ⟨#[]⟩, .slice none 0 0, .slice none 0 0] 52)) g d1 (some l) := hqs.keep hbA.size (hbA.block g hgl) (fun h => hbA.block d1 h)
  have hbw2 := hbw1.trans (hbA.mono hbw1.size)
  have hnb2 : w1.heap.size < (w1.alloc (Obj.cells #[.bool false, .int .u64 0, .string ⟨#[]⟩, .int .u32 0, .string ⟨#[]⟩, .string ⟨#[]⟩, .slice none 0 0, .int .u8 0, .int .u64 0, .string ⟨#[]⟩, .slice none 0 0, .slice none 0 0] 52)).heap.size := by simp
  clear hqs hg hd1 hb1 hB1 hro1 hbA
  go_upto_region 4 with fail
  generalize w1.alloc _ = W2 at *
  obtain ⟨nb, hnb⟩ : ∃ nb, nb = w1.heap.size := ⟨_, rfl⟩
  rw [← hnb] at hab2 hnb2 hgl ⊢
  have hng : g < nb := hgl
  have hnw : w.heap.size < nb := by omega
  have HX := Lib.hid (And.intro hro2 (And.intro hab2 (And.intro hqs2 hbw2)))
  clear hnb hbw1
  have HWD := Lib.hid (fun w' => (show Calls Tryz.prog 44 #[.int .u8 (115 : Nat)] w' fun e w'' => e = .returned (.int .i64 1) ∧ w'' = w' from qwidth_any 115 (by omega) w'))
  have HN := Lib.hid (show Calls Tryz.prog 63 #[.pointer (some ⟨g, 0, none⟩), .int .i64 1, .int .i64 65535] W2 fun e w' => e = .returned (.string (str8 (textS 1 65535 (some l)).1)) ∧ QS w' g d1 (textS 1 65535 (some l)).2 ∧ W2.grownBy w' (some g) from qtext_any g d1 (some l) 1 65535 W2 hqs2 (by simp [lenS]; omega) (by omega) (by omega))
  have hlt := x_textS_fst_le 1 65535 (some l)
  have hlS := x_textS_lenS 1 65535 (some l)
  have HRD : Hid (readA 115 (some l) = ({ zA with s := str8 (textS 1 65535 (some l)).1 }, (textS 1 65535 (some l)).2)) := Lib.hid (by unfold readA; rw [if_neg (by decide), if_pos (by decide)]; exact text_most1 l)
  generalize textS 1 65535 (some l) = R at *
  obtain ⟨N0, s⟩ := R
  dsimp only at HN hlt hlS HRD
  have hlt2 : (str8 N0).size ≤ 140737488351232 := by rw [str8_size]; simp [lenS] at hlt; omega
  clear hlt
  generalize str8 N0 = N at *
  clear hro2 hab2 hqs2 hbw2
  go_upto_region 13 with (first
    | (go_at_call 44; refine (HWD.out _).mono ?_; rintro e wd ⟨rfl, rfl⟩)
    | (go_at_call 63; refine HN.out.mono ?_; rintro e w3 ⟨rfl, hqs3, hg3⟩
       have hab3 : BoxG w3 nb zA (.slice none 0 0) (.int .u8 (0 : Nat)) (.int .u64 (0 : Nat)) (.string ⟨#[]⟩) (.slice none 0 0) (.slice none 0 0) := (hg3.block nb (by omega) (fun e => by cases e; omega)).trans HX.out.2.1
       have hro3 : BoxG w3 w.heap.size zA (.slice none 0 0) (.int .u8 (0 : Nat)) (.int .u64 (0 : Nat)) (.string ⟨#[]⟩) (.slice none 0 0) (.slice none 0 0) := (hg3.block w.heap.size (by omega) (fun e => by cases e; omega)).trans HX.out.1
       have hbw3 : Below w.heap.size w w3 := HX.out.2.2.2.trans (below_of_grown hg3 (by omega) HX.out.2.2.2.size)
       have c1 := hab3.cells.1.2.2
       have fr1 := hab3.fr 2))
  have hl1 : w.heap.size ≠ nb := by omega
  have hl2 : g ≠ nb := by omega
  have hl3 : d1 ≠ nb := by omega
  have hab4 := hab3.setS N
  have hro4 : BoxG (w3.setCell ⟨nb, 2, none⟩ (.string N)) w.heap.size zA (.slice none 0 0) (.int .u8 (0 : Nat)) (.int .u64 (0 : Nat)) (.string ⟨#[]⟩) (.slice none 0 0) (.slice none 0 0) := (Below.heap_setCell _ _ _ _ hl1).trans hro3
  have hqs4 : QS (w3.setCell ⟨nb, 2, none⟩ (.string N)) g d1 s := hqs3.keep (by simp) (Below.heap_setCell _ _ _ _ hl2) (fun _ => Below.heap_setCell _ _ _ _ hl3)
  have hbw4 : Below w.heap.size w (w3.setCell ⟨nb, 2, none⟩ (.string N)) := hbw3.setCell (by show w.heap.size ≤ nb; omega) _
  have hsz : SizeA { zA with s := N } := ⟨sizeA_z.n, sizeA_z.f, sizeA_z.u, hlt2, sizeA_z.g, sizeA_z.h, sizeA_z.q⟩
  generalize w3.setCell _ _ = V at *
  obtain ⟨rv, r, hrc, hrs, hrl, hre⟩ := reader_rest hqs4
  have hrl2 : r.length ≤ l.length := Nat.le_trans hrl hlS
  have HEE : ∃ a A c dq v0 v1 v2 v3 v4, TkW w V nb a A c dq v0 v1 v2 v3 v4 rv d1 r ∧ a = { zA with s := N } ∧ a.q.length ≤ 1100 := ⟨{ zA with s := N }, none, 0, 0, _, _, _, _, _, ⟨⟨_, _, _, _, _, hro4⟩, hab4, hnw, showsA_plain _ _ rfl rfl hsz, hrs, by omega, hbw4⟩, rfl, Nat.zero_le _⟩
  obtain ⟨a, A, c, dq, v0, v1, v2, v3, v4, hE, hae, hq11⟩ := HEE
  have HSP : Hid (∀ r', (readA 115 (some l)).2 = some r' → a = (readA 115 (some l)).1 ∧ r = r') := Lib.hid (fun r' hr' => by
    rw [HRD.out] at hr' ⊢
    exact ⟨hae, hre r' hr'⟩)
  obtain ⟨xk, xn, xs, xa, xb, xc, xd, xe, xf, hxx⟩ := hE.sh.v.cells5
  simp only [List.cons.injEq, and_true] at hxx
  obtain ⟨rfl, rfl, rfl, rfl, rfl⟩ := hxx
  have HE := Lib.hid hE
  have hrl := hrl2
  clear hE hae hab4 hro4 hqs4 hbw4 hsz hab3 hro3 hqs3 hbw3 hg3 c1 fr1 hre hrs hrl2 HRD hlS
  have hk := HE.out
  obtain ⟨u0, u1, u2, u3, u4, hro⟩ := hk.ro
  obtain ⟨⟨q0, q1, q2⟩, ⟨q3, q4, q5⟩, q6, q7, q8, q9, q10, q11⟩ := hro.cells
  obtain ⟨⟨p0, p1, p2⟩, ⟨p3, p4, p5⟩, p6, p7, p8, p9, p10, p11⟩ := hk.ab.cells
  have f0 := hro.fr 0
  have f1 := hro.fr 1
  have f2 := hro.fr 2
  have f3 := hro.fr 3
  have f4 := hro.fr 4
  have f5 := hro.fr 5
  have f6 := hro.fr 6
  have f7 := hro.fr 7
  have f8 := hro.fr 8
  have f9 := hro.fr 9
  have f10 := hro.fr 10
  have f11 := hro.fr 11
  have ne1 : ¬ nb = w.heap.size := by omega
  have ne2 : ¬ w.heap.size = nb := by omega
  have HD := Lib.hid hk.done
  unfold set12 at HD
  obtain ⟨ai, an, az, af, ag, ah, aq, av⟩ := a
  dsimp only at HD p0 p1 p2 p3 p4 p5 p6 q0 q1 q2 q3 q4 q5 hq11
  clear hk hro
  go_region
  all_goals
    have hd := HD.out
    clear p0 p1 p2 p3 p4 p5 p6 p7 p8 p9 p10 p11 q0 q1 q2 q3 q4 q5 q6 q7 q8 q9 q10 q11 f0 f1 f2 f3 f4 f5 f6 f7 f8 f9 f10 f11 ne1 ne2
    generalize World.setCell _ ⟨w.heap.size, 11, none⟩ _ = W11 at *
    have HD := Lib.hid hd
    clear hd
    go_wp2_with fail
    refine bodyPost_ret (mt_results rfl _ _ w.heap.size 52 _ (0, 0) _ rfl HD.out.1 Tryz.underlying52 rfl (by kernel_rfl)) rfl ?_
    exact ⟨⟨ai, an, az, af, ag, ah, aq, av⟩, A, c, dq, _, _, _, _, _, _, d1, r, rfl, (by first | exact HD.out.2.1 | exact HD.out.2.1.sub (low_out_drew _ _)), (by first | exact HD.out.2.2.1 | exact HD.out.2.2.1.drew), hrl, hq11, (by first | exact HD.out.2.2.2 | exact below_drew1 HD.out.2.2.2), HSP.out, .inr (by omega)⟩
set_option maxRecDepth 100000 in
set_option maxHeartbeats 4000000 in
theorem take_116 (l : List UInt8) (v : Value) (d0 : Nat) (w : World) (hv : Shows w d0 v l) (hl : l.length ≤ 20000) :
    Calls Tryz.prog 30 #[.int .u8 (116 : Nat), v] w (TakeSaid 116 l d0 w) := by
  obtain ⟨A0, c0, rfl, hlc, hcm, _⟩ := id hv
  obtain ⟨W0, hW0⟩ : ∃ W0, W0 = w.alloc (Obj.cells #[.bool false, .int .u64 0, .string ⟨#[]⟩, .int .u32 0, .string ⟨#[]⟩, .string ⟨#[]⟩, .slice none 0 0, .int .u8 0, .int .u64 0, .string ⟨#[]⟩, .slice none 0 0, .slice none 0 0] 52) := ⟨_, rfl⟩
  have hb0 : Below w.heap.size w W0 := by rw [hW0]; exact below_box w _
  have hs0 : W0.heap.size = w.heap.size + 1 := by rw [hW0]; simp
  have HV0 := Lib.hid hv
  have HVK := Lib.hid (fun w' (hb : Below w.heap.size w w') => shows_kept hv hb)
  have HO := Lib.hid (qopen_any _ l d0 W0 (shows_kept hv hb0) (by omega))
  have HW0 := Lib.hid hW0
  have HS0 := Lib.hid (And.intro hs0 hb0)
  clear hW0 hb0 hs0 hv
  go_enter Tryz.func30, Tryz.ntmps30
  go_upto_region 1 with fail
  rw [← HW0.out]
  go_wp2_with fail
  refine HO.out.mono ?_
  rintro e w1 ⟨g, d1, rfl, hqs, hg, ⟨hd1, hd2⟩, hb1⟩
  have hB1 : Below (w.heap.size + 1) (w.alloc (Obj.cells #[.bool false, .int .u64 0, .string ⟨#[]⟩, .int .u32 0, .string ⟨#[]⟩, .string ⟨#[]⟩, .slice none 0 0, .int .u8 0, .int .u64 0, .string ⟨#[]⟩, .slice none 0 0, .slice none 0 0] 52)) w1 := by rw [← HW0.out, ← HS0.out.1]; exact hb1
  obtain ⟨hro1, hbw1⟩ := take_boxes w w1 hB1
  have hg1 : w.heap.size + 1 ≤ g := by rw [← HS0.out.1]; exact hg
  have hdd : w.heap.size + 1 ≤ d1 := by rw [← HS0.out.1]; exact hd1
  have hgl : g < w1.heap.size := hqs.lt
  have hbA : Below w1.heap.size w1 (w1.alloc (Obj.cells #[.bool false, .int .u64 0, .string ⟨#[]⟩, .int .u32 0, .string ⟨#[]⟩, .string ⟨#[]⟩, .slice none 0 0, .int .u8 0, .int .u64 0, .string ⟨#[]⟩, .slice none 0 0, .slice none 0 0] 52)) := below_box w1 _
  have hab2 := BoxG.zero w1
  have hro2 := hro1.kept hbA (Nat.le_refl _)
  have hqs2 : QS (w1.alloc (Obj.cells #[.bool false, .int .u64 0, .string ⟨#[]⟩, .int .u32 0, .string ⟨#[]⟩, .string ⟨#[]⟩, .slice none 0 0, .int .u8 0, .int .u64 0, .string ⟨#[]⟩, .slice none 0 0, .slice none 0 0] 52)) g d1 (some l) := hqs.keep hbA.size (hbA.block g hgl) (fun h => hbA.block d1 h)
  have hbw2 := hbw1.trans (hbA.mono hbw1.size)
  have hnb2 : w1.heap.size < (w1.alloc (Obj.cells #[.bool false, .int .u64 0, .string ⟨#[]⟩, .int .u32 0, .string ⟨#[]⟩, .string ⟨#[]⟩, .slice none 0 0, .int .u8 0, .int .u64 0, .string ⟨#[]⟩, .slice none 0 0, .slice none 0 0] 52)).heap.size := by simp
  clear hqs hg hd1 hb1 hB1 hro1 hbA
  go_upto_region 4 with fail
  generalize w1.alloc _ = W2 at *
  obtain ⟨nb, hnb⟩ : ∃ nb, nb = w1.heap.size := ⟨_, rfl⟩
  rw [← hnb] at hab2 hnb2 hgl ⊢
  have hng : g < nb := hgl
  have hnw : w.heap.size < nb := by omega
  have HX := Lib.hid (And.intro hro2 (And.intro hab2 (And.intro hqs2 hbw2)))
  clear hnb hbw1
  have HWD := Lib.hid (fun w' => (show Calls Tryz.prog 44 #[.int .u8 (116 : Nat)] w' fun e w'' => e = .returned (.int .i64 2) ∧ w'' = w' from qwidth_any 116 (by omega) w'))
  have HN := Lib.hid (show Calls Tryz.prog 63 #[.pointer (some ⟨g, 0, none⟩), .int .i64 2, .int .i64 65535] W2 fun e w' => e = .returned (.string (str8 (textS 2 65535 (some l)).1)) ∧ QS w' g d1 (textS 2 65535 (some l)).2 ∧ W2.grownBy w' (some g) from qtext_any g d1 (some l) 2 65535 W2 hqs2 (by simp [lenS]; omega) (by omega) (by omega))
  have hlt := x_textS_fst_le 2 65535 (some l)
  have hlS := x_textS_lenS 2 65535 (some l)
  have HRD : Hid (readA 116 (some l) = ({ zA with s := str8 (textS 2 65535 (some l)).1 }, (textS 2 65535 (some l)).2)) := Lib.hid (by unfold readA; rw [if_neg (by decide), if_pos (by decide)]; exact text_most2 l)
  generalize textS 2 65535 (some l) = R at *
  obtain ⟨N0, s⟩ := R
  dsimp only at HN hlt hlS HRD
  have hlt2 : (str8 N0).size ≤ 140737488351232 := by rw [str8_size]; simp [lenS] at hlt; omega
  clear hlt
  generalize str8 N0 = N at *
  clear hro2 hab2 hqs2 hbw2
  go_upto_region 13 with (first
    | (go_at_call 44; refine (HWD.out _).mono ?_; rintro e wd ⟨rfl, rfl⟩)
    | (go_at_call 63; refine HN.out.mono ?_; rintro e w3 ⟨rfl, hqs3, hg3⟩
       have hab3 : BoxG w3 nb zA (.slice none 0 0) (.int .u8 (0 : Nat)) (.int .u64 (0 : Nat)) (.string ⟨#[]⟩) (.slice none 0 0) (.slice none 0 0) := (hg3.block nb (by omega) (fun e => by cases e; omega)).trans HX.out.2.1
       have hro3 : BoxG w3 w.heap.size zA (.slice none 0 0) (.int .u8 (0 : Nat)) (.int .u64 (0 : Nat)) (.string ⟨#[]⟩) (.slice none 0 0) (.slice none 0 0) := (hg3.block w.heap.size (by omega) (fun e => by cases e; omega)).trans HX.out.1
       have hbw3 : Below w.heap.size w w3 := HX.out.2.2.2.trans (below_of_grown hg3 (by omega) HX.out.2.2.2.size)
       have c1 := hab3.cells.1.2.2
       have fr1 := hab3.fr 2))
  have hl1 : w.heap.size ≠ nb := by omega
  have hl2 : g ≠ nb := by omega
  have hl3 : d1 ≠ nb := by omega
  have hab4 := hab3.setS N
  have hro4 : BoxG (w3.setCell ⟨nb, 2, none⟩ (.string N)) w.heap.size zA (.slice none 0 0) (.int .u8 (0 : Nat)) (.int .u64 (0 : Nat)) (.string ⟨#[]⟩) (.slice none 0 0) (.slice none 0 0) := (Below.heap_setCell _ _ _ _ hl1).trans hro3
  have hqs4 : QS (w3.setCell ⟨nb, 2, none⟩ (.string N)) g d1 s := hqs3.keep (by simp) (Below.heap_setCell _ _ _ _ hl2) (fun _ => Below.heap_setCell _ _ _ _ hl3)
  have hbw4 : Below w.heap.size w (w3.setCell ⟨nb, 2, none⟩ (.string N)) := hbw3.setCell (by show w.heap.size ≤ nb; omega) _
  have hsz : SizeA { zA with s := N } := ⟨sizeA_z.n, sizeA_z.f, sizeA_z.u, hlt2, sizeA_z.g, sizeA_z.h, sizeA_z.q⟩
  generalize w3.setCell _ _ = V at *
  obtain ⟨rv, r, hrc, hrs, hrl, hre⟩ := reader_rest hqs4
  have hrl2 : r.length ≤ l.length := Nat.le_trans hrl hlS
  have HEE : ∃ a A c dq v0 v1 v2 v3 v4, TkW w V nb a A c dq v0 v1 v2 v3 v4 rv d1 r ∧ a = { zA with s := N } ∧ a.q.length ≤ 1100 := ⟨{ zA with s := N }, none, 0, 0, _, _, _, _, _, ⟨⟨_, _, _, _, _, hro4⟩, hab4, hnw, showsA_plain _ _ rfl rfl hsz, hrs, by omega, hbw4⟩, rfl, Nat.zero_le _⟩
  obtain ⟨a, A, c, dq, v0, v1, v2, v3, v4, hE, hae, hq11⟩ := HEE
  have HSP : Hid (∀ r', (readA 116 (some l)).2 = some r' → a = (readA 116 (some l)).1 ∧ r = r') := Lib.hid (fun r' hr' => by
    rw [HRD.out] at hr' ⊢
    exact ⟨hae, hre r' hr'⟩)
  obtain ⟨xk, xn, xs, xa, xb, xc, xd, xe, xf, hxx⟩ := hE.sh.v.cells5
  simp only [List.cons.injEq, and_true] at hxx
  obtain ⟨rfl, rfl, rfl, rfl, rfl⟩ := hxx
  have HE := Lib.hid hE
  have hrl := hrl2
  clear hE hae hab4 hro4 hqs4 hbw4 hsz hab3 hro3 hqs3 hbw3 hg3 c1 fr1 hre hrs hrl2 HRD hlS
  have hk := HE.out
  obtain ⟨u0, u1, u2, u3, u4, hro⟩ := hk.ro
  obtain ⟨⟨q0, q1, q2⟩, ⟨q3, q4, q5⟩, q6, q7, q8, q9, q10, q11⟩ := hro.cells
  obtain ⟨⟨p0, p1, p2⟩, ⟨p3, p4, p5⟩, p6, p7, p8, p9, p10, p11⟩ := hk.ab.cells
  have f0 := hro.fr 0
  have f1 := hro.fr 1
  have f2 := hro.fr 2
  have f3 := hro.fr 3
  have f4 := hro.fr 4
  have f5 := hro.fr 5
  have f6 := hro.fr 6
  have f7 := hro.fr 7
  have f8 := hro.fr 8
  have f9 := hro.fr 9
  have f10 := hro.fr 10
  have f11 := hro.fr 11
  have ne1 : ¬ nb = w.heap.size := by omega
  have ne2 : ¬ w.heap.size = nb := by omega
  have HD := Lib.hid hk.done
  unfold set12 at HD
  obtain ⟨ai, an, az, af, ag, ah, aq, av⟩ := a
  dsimp only at HD p0 p1 p2 p3 p4 p5 p6 q0 q1 q2 q3 q4 q5 hq11
  clear hk hro
  go_region
  all_goals
    have hd := HD.out
    clear p0 p1 p2 p3 p4 p5 p6 p7 p8 p9 p10 p11 q0 q1 q2 q3 q4 q5 q6 q7 q8 q9 q10 q11 f0 f1 f2 f3 f4 f5 f6 f7 f8 f9 f10 f11 ne1 ne2
    generalize World.setCell _ ⟨w.heap.size, 11, none⟩ _ = W11 at *
    have HD := Lib.hid hd
    clear hd
    go_wp2_with fail
    refine bodyPost_ret (mt_results rfl _ _ w.heap.size 52 _ (0, 0) _ rfl HD.out.1 Tryz.underlying52 rfl (by kernel_rfl)) rfl ?_
    exact ⟨⟨ai, an, az, af, ag, ah, aq, av⟩, A, c, dq, _, _, _, _, _, _, d1, r, rfl, (by first | exact HD.out.2.1 | exact HD.out.2.1.sub (low_out_drew _ _)), (by first | exact HD.out.2.2.1 | exact HD.out.2.2.1.drew), hrl, hq11, (by first | exact HD.out.2.2.2 | exact below_drew1 HD.out.2.2.2), HSP.out, .inr (by omega)⟩
set_option maxRecDepth 100000 in
set_option maxHeartbeats 4000000 in
theorem take_120 (l : List UInt8) (v : Value) (d0 : Nat) (w : World) (hv : Shows w d0 v l) (hl : l.length ≤ 20000) :
    Calls Tryz.prog 30 #[.int .u8 (120 : Nat), v] w (TakeSaid 120 l d0 w) := by
  obtain ⟨A0, c0, rfl, hlc, hcm, _⟩ := id hv
  obtain ⟨W0, hW0⟩ : ∃ W0, W0 = w.alloc (Obj.cells #[.bool false, .int .u64 0, .string ⟨#[]⟩, .int .u32 0, .string ⟨#[]⟩, .string ⟨#[]⟩, .slice none 0 0, .int .u8 0, .int .u64 0, .string ⟨#[]⟩, .slice none 0 0, .slice none 0 0] 52) := ⟨_, rfl⟩
  have hb0 : Below w.heap.size w W0 := by rw [hW0]; exact below_box w _
  have hs0 : W0.heap.size = w.heap.size + 1 := by rw [hW0]; simp
  have HV0 := Lib.hid hv
  have HVK := Lib.hid (fun w' (hb : Below w.heap.size w w') => shows_kept hv hb)
  have HO := Lib.hid (qopen_any _ l d0 W0 (shows_kept hv hb0) (by omega))
  have HW0 := Lib.hid hW0
  have HS0 := Lib.hid (And.intro hs0 hb0)
  clear hW0 hb0 hs0 hv
  go_enter Tryz.func30, Tryz.ntmps30
  go_upto_region 1 with fail
  rw [← HW0.out]
  go_wp2_with fail
  refine HO.out.mono ?_
  rintro e w1 ⟨g, d1, rfl, hqs, hg, ⟨hd1, hd2⟩, hb1⟩
  have hB1 : Below (w.heap.size + 1) (w.alloc (Obj.cells #[.bool false, .int .u64 0, .string ⟨#[]⟩, .int .u32 0, .string ⟨#[]⟩, .string ⟨#[]⟩, .slice none 0 0, .int .u8 0, .int .u64 0, .string ⟨#[]⟩, .slice none 0 0, .slice none 0 0] 52)) w1 := by rw [← HW0.out, ← HS0.out.1]; exact hb1
  obtain ⟨hro1, hbw1⟩ := take_boxes w w1 hB1
  have hg1 : w.heap.size + 1 ≤ g := by rw [← HS0.out.1]; exact hg
  have hdd : w.heap.size + 1 ≤ d1 := by rw [← HS0.out.1]; exact hd1
  have hgl : g < w1.heap.size := hqs.lt
  have hbA : Below w1.heap.size w1 (w1.alloc (Obj.cells #[.bool false, .int .u64 0, .string ⟨#[]⟩, .int .u32 0, .string ⟨#[]⟩, .string ⟨#[]⟩, .slice none 0 0, .int .u8 0, .int .u64 0, .string ⟨#[]⟩, .slice none 0 0, .slice none 0 0] 52)) := below_box w1 _
  have hab2 := BoxG.zero w1
  have hro2 := hro1.kept hbA (Nat.le_refl _)
  have hqs2 : QS (w1.alloc (Obj.cells #[.bool false, .int .u64 0, .string ⟨#[]⟩, .int .u32 0, .string ⟨#[]⟩, .string ⟨#[]⟩, .slice none 0 0, .int .u8 0, .int .u64 0, .string ⟨#[]⟩, .slice none 0 0, .slice none 0 0] 52)) g d1 (some l) := hqs.keep hbA.size (hbA.block g hgl) (fun h => hbA.block d1 h)
  have hbw2 := hbw1.trans (hbA.mono hbw1.size)
  have hnb2 : w1.heap.size < (w1.alloc (Obj.cells #[.bool false, .int .u64 0, .string ⟨#[]⟩, .int .u32 0, .string ⟨#[]⟩, .string ⟨#[]⟩, .slice none 0 0, .int .u8 0, .int .u64 0, .string ⟨#[]⟩, .slice none 0 0, .slice none 0 0] 52)).heap.size := by simp
  clear hqs hg hd1 hb1 hB1 hro1 hbA
  go_upto_region 4 with fail
  generalize w1.alloc _ = W2 at *
  obtain ⟨nb, hnb⟩ : ∃ nb, nb = w1.heap.size := ⟨_, rfl⟩
  rw [← hnb] at hab2 hnb2 hgl ⊢
  have hng : g < nb := hgl
  have hnw : w.heap.size < nb := by omega
  have HX := Lib.hid (And.intro hro2 (And.intro hab2 (And.intro hqs2 hbw2)))
  clear hnb hbw1
  have HG := Lib.hid (fun w' (hb : Below w.heap.size w w') => qgetx_said A0 c0 d0 l w' (HVK.out w' hb) hl)
  clear hro2 hab2 hqs2 hbw2
  go_wp2_with fail
  refine (HG.out _ HX.out.2.2.2).mono ?_
  rintro e w3 ⟨f, gg, hh, N, code, rfl, hb3, ⟨hf1, hf2, hf3⟩, hN, hsp⟩
  have hab3 := HX.out.2.1.kept hb3 (Nat.le_refl _)
  have hro3 := HX.out.1.kept hb3 (Nat.le_refl _)
  have hbw3 : Below w.heap.size w w3 := HX.out.2.2.2.trans (hb3.mono HX.out.2.2.2.size)
  have hl1 : w.heap.size ≠ nb := by omega
  obtain ⟨⟨b0, b1, b2⟩, ⟨b3, b4, b5⟩, b6, b7, b8, b9, b10, b11⟩ := hab3.cells
  have r3 := hab3.fr 3
  have r4 := hab3.fr 4
  have r5 := hab3.fr 5
  have r6 := hab3.fr 6
  have r7 := hab3.fr 7
  have r8 := hab3.fr 8
  have r9 := hab3.fr 9
  have r10 := hab3.fr 10
  have r11 := hab3.fr 11
  go_upto_region 20 with fail
  have hab4 := hab3.setX f gg hh
  have hro4 : BoxG (((w3.setCell ⟨nb, 3, none⟩ (.int .u32 (f : Nat))).setCell ⟨nb, 4, none⟩ (.string gg)).setCell ⟨nb, 5, none⟩ (.string hh)) w.heap.size zA (.slice none 0 0) (.int .u8 (0 : Nat)) (.int .u64 (0 : Nat)) (.string ⟨#[]⟩) (.slice none 0 0) (.slice none 0 0) := ((Below.heap_setCell _ _ _ _ hl1).trans ((Below.heap_setCell _ _ _ _ hl1).trans (Below.heap_setCell _ _ _ _ hl1))).trans hro3
  have hbw4 : Below w.heap.size w (((w3.setCell ⟨nb, 3, none⟩ (.int .u32 (f : Nat))).setCell ⟨nb, 4, none⟩ (.string gg)).setCell ⟨nb, 5, none⟩ (.string hh)) := ((hbw3.setCell (by show w.heap.size ≤ nb; omega) _).setCell (by show w.heap.size ≤ nb; omega) _).setCell (by show w.heap.size ≤ nb; omega) _
  have hsa := shows_xid (lowm (w.heap.size + 1) (((w3.setCell ⟨nb, 3, none⟩ (.int .u32 (f : Nat))).setCell ⟨nb, 4, none⟩ (.string gg)).setCell ⟨nb, 5, none⟩ (.string hh))) 0 f gg hh hf1 hf2 hf3
  have HEE : ∃ a A c dq v0 v1 v2 v3 v4, TkZ w (((w3.setCell ⟨nb, 3, none⟩ (.int .u32 (f : Nat))).setCell ⟨nb, 4, none⟩ (.string gg)).setCell ⟨nb, 5, none⟩ (.string hh)) nb a A c dq v0 v1 v2 v3 v4 ∧ a = { zA with f := f, g := gg, h := hh } ∧ a.q.length ≤ 1100 := ⟨{ zA with f := f, g := gg, h := hh }, none, 0, 0, _, _, _, _, _, ⟨⟨_, _, _, _, _, hro4⟩, hab4, hnw, hsa, hbw4⟩, rfl, Nat.zero_le _⟩
  have HSP0 := Lib.hid hsp
  have HN := Lib.hid hN
  clear b0 b1 b2 b3 b4 b5 b6 b7 b8 b9 b10 b11 r3 r4 r5 r6 r7 r8 r9 r10 r11 hab3 hro3 hbw3 hb3 hab4 hro4 hbw4 hsa hsp
  generalize World.setCell _ ⟨nb, 5, none⟩ _ = V at *
  obtain ⟨a, A, c, dq, v0, v1, v2, v3, v4, hE, hae, hq11⟩ := HEE
  have HSP : Hid (∀ r', (readA 120 (some l)).2 = some r' → a = (readA 120 (some l)).1 ∧ l.drop N = r') := Lib.hid (fun r' hr' => by
    obtain ⟨e1, e2⟩ := HSP0.out r' hr'
    exact ⟨hae.trans e1.symm, e2.symm⟩)
  obtain ⟨yk, yn, ys, ya, yb, yc, yd, ye, yf, hxx⟩ := hE.sh.v.cells5
  simp only [List.cons.injEq, and_true] at hxx
  obtain ⟨rfl, rfl, rfl, rfl, rfl⟩ := hxx
  have HE := Lib.hid hE
  clear hE hae
  have hN1 : (N : Int) ≤ (l.length : Int) := by omega
  have hN2 : (N : Int) ≤ (c0 : Int) := by omega
  have hk := HE.out
  obtain ⟨u0, u1, u2, u3, u4, hro⟩ := hk.ro
  obtain ⟨⟨q0, q1, q2⟩, ⟨q3, q4, q5⟩, q6, q7, q8, q9, q10, q11⟩ := hro.cells
  obtain ⟨⟨p0, p1, p2⟩, ⟨p3, p4, p5⟩, p6, p7, p8, p9, p10, p11⟩ := hk.ab.cells
  have f0 := hro.fr 0
  have f1 := hro.fr 1
  have f2 := hro.fr 2
  have f3 := hro.fr 3
  have f4 := hro.fr 4
  have f5 := hro.fr 5
  have f6 := hro.fr 6
  have f7 := hro.fr 7
  have f8 := hro.fr 8
  have f9 := hro.fr 9
  have f10 := hro.fr 10
  have f11 := hro.fr 11
  have ne1 : ¬ nb = w.heap.size := by omega
  have ne2 : ¬ w.heap.size = nb := by omega
  have HD := Lib.hid hk.done
  unfold set12 at HD
  obtain ⟨ai, an, az, af, ag, ah, aq, av⟩ := a
  dsimp only at HD p0 p1 p2 p3 p4 p5 p6 q0 q1 q2 q3 q4 q5 hq11
  clear hk hro
  go_region
  all_goals
    have hd := HD.out
    clear p0 p1 p2 p3 p4 p5 p6 p7 p8 p9 p10 p11 q0 q1 q2 q3 q4 q5 q6 q7 q8 q9 q10 q11 f0 f1 f2 f3 f4 f5 f6 f7 f8 f9 f10 f11 ne1 ne2
    generalize World.setCell _ ⟨w.heap.size, 11, none⟩ _ = W11 at *
    have HD := Lib.hid hd
    clear hd
    go_wp2_with fail
    all_goals
      refine bodyPost_ret (mt_results rfl _ _ w.heap.size 52 _ (0, 0) _ rfl HD.out.1 Tryz.underlying52 rfl (by kernel_rfl)) rfl ?_
      have hbe : Below w.heap.size w W11.drew := below_drew1 HD.out.2.2
      exact ⟨⟨ai, an, az, af, ag, ah, aq, av⟩, A, c, dq, _, _, _, _, _, _, d0, l.drop N, rfl, (by first | exact HD.out.2.1 | exact HD.out.2.1.sub (low_out_drew _ _)), (by
        first
          | exact (HVK.out _ hbe).tail HN.out (Option.map (fun x => x.add N) A0) (fun _ => rfl)
          | (have hcN : c0 = N := by assumption
             have ht := (HVK.out _ hbe).tail HN.out A0 (fun hne => absurd hcN hne)
             rw [show c0 - N = 0 by omega] at ht
             exact ht)), (by rw [List.length_drop]; omega), hq11, (by first | exact HD.out.2.2 | exact below_drew1 HD.out.2.2), HSP.out, .inl rfl⟩
set_option maxRecDepth 100000 in
set_option maxHeartbeats 4000000 in
theorem take_114 (l : List UInt8) (v : Value) (d0 : Nat) (w : World) (hv : Shows w d0 v l) (hl : l.length ≤ 20000) :
    Calls Tryz.prog 30 #[.int .u8 (114 : Nat), v] w (TakeSaid 114 l d0 w) := by
  obtain ⟨A0, c0, rfl, hlc, hcm, _⟩ := id hv
  obtain ⟨W0, hW0⟩ : ∃ W0, W0 = w.alloc (Obj.cells #[.bool false, .int .u64 0, .string ⟨#[]⟩, .int .u32 0, .string ⟨#[]⟩, .string ⟨#[]⟩, .slice none 0 0, .int .u8 0, .int .u64 0, .string ⟨#[]⟩, .slice none 0 0, .slice none 0 0] 52) := ⟨_, rfl⟩
  have hb0 : Below w.heap.size w W0 := by rw [hW0]; exact below_box w _
  have hs0 : W0.heap.size = w.heap.size + 1 := by rw [hW0]; simp
  have HV0 := Lib.hid hv
  have HVK := Lib.hid (fun w' (hb : Below w.heap.size w w') => shows_kept hv hb)
  have HO := Lib.hid (qopen_any _ l d0 W0 (shows_kept hv hb0) (by omega))
  have HW0 := Lib.hid hW0
  have HS0 := Lib.hid (And.intro hs0 hb0)
  clear hW0 hb0 hs0 hv
  go_enter Tryz.func30, Tryz.ntmps30
  go_upto_region 1 with fail
  rw [← HW0.out]
  go_wp2_with fail
  refine HO.out.mono ?_
  rintro e w1 ⟨g, d1, rfl, hqs, hg, ⟨hd1, hd2⟩, hb1⟩
  have hB1 : Below (w.heap.size + 1) (w.alloc (Obj.cells #[.bool false, .int .u64 0, .string ⟨#[]⟩, .int .u32 0, .string ⟨#[]⟩, .string ⟨#[]⟩, .slice none 0 0, .int .u8 0, .int .u64 0, .string ⟨#[]⟩, .slice none 0 0, .slice none 0 0] 52)) w1 := by rw [← HW0.out, ← HS0.out.1]; exact hb1
  obtain ⟨hro1, hbw1⟩ := take_boxes w w1 hB1
  have hg1 : w.heap.size + 1 ≤ g := by rw [← HS0.out.1]; exact hg
  have hdd : w.heap.size + 1 ≤ d1 := by rw [← HS0.out.1]; exact hd1
  have hgl : g < w1.heap.size := hqs.lt
  have hbA : Below w1.heap.size w1 (w1.alloc (Obj.cells #[.bool false, .int .u64 0, .string ⟨#[]⟩, .int .u32 0, .string ⟨#[]⟩, .string ⟨#[]⟩, .slice none 0 0, .int .u8 0, .int .u64 0, .string ⟨#[]⟩, .slice none 0 0, .slice none 0 0] 52)) := below_box w1 _
  have hab2 := BoxG.zero w1
  have hro2 := hro1.kept hbA (Nat.le_refl _)
  have hqs2 : QS (w1.alloc (Obj.cells #[.bool false, .int .u64 0, .string ⟨#[]⟩, .int .u32 0, .string ⟨#[]⟩, .string ⟨#[]⟩, .slice none 0 0, .int .u8 0, .int .u64 0, .string ⟨#[]⟩, .slice none 0 0, .slice none 0 0] 52)) g d1 (some l) := hqs.keep hbA.size (hbA.block g hgl) (fun h => hbA.block d1 h)
  have hbw2 := hbw1.trans (hbA.mono hbw1.size)
  have hnb2 : w1.heap.size < (w1.alloc (Obj.cells #[.bool false, .int .u64 0, .string ⟨#[]⟩, .int .u32 0, .string ⟨#[]⟩, .string ⟨#[]⟩, .slice none 0 0, .int .u8 0, .int .u64 0, .string ⟨#[]⟩, .slice none 0 0, .slice none 0 0] 52)).heap.size := by simp
  clear hqs hg hd1 hb1 hB1 hro1 hbA
  go_upto_region 4 with fail
  generalize w1.alloc _ = W2 at *
  obtain ⟨nb, hnb⟩ : ∃ nb, nb = w1.heap.size := ⟨_, rfl⟩
  rw [← hnb] at hab2 hnb2 hgl ⊢
  have hng : g < nb := hgl
  have hnw : w.heap.size < nb := by omega
  have HX := Lib.hid (And.intro hro2 (And.intro hab2 (And.intro hqs2 hbw2)))
  clear hnb hbw1
  have HG := Lib.hid (fun w' (hb : Below w.heap.size w w') => qgets_said A0 c0 d0 l w' (HVK.out w' hb) hl)
  clear hro2 hab2 hqs2 hbw2
  go_wp2_with fail
  refine (HG.out _ HX.out.2.2.2).mono ?_
  rintro e w3 ⟨qv, q, N, code, rfl, hb3, hoq, huq, hlq, hN, hsp⟩
  obtain ⟨Aq, cq, rfl, _, _⟩ := hoq.form
  have hab3 := HX.out.2.1.kept hb3 (Nat.le_refl _)
  have hro3 := HX.out.1.kept hb3 (Nat.le_refl _)
  have hbw3 : Below w.heap.size w w3 := HX.out.2.2.2.trans (hb3.mono HX.out.2.2.2.size)
  have hl1 : w.heap.size ≠ nb := by omega
  obtain ⟨⟨b0, b1, b2⟩, ⟨b3, b4, b5⟩, b6, b7, b8, b9, b10, b11⟩ := hab3.cells
  have r3 := hab3.fr 3
  have r4 := hab3.fr 4
  have r5 := hab3.fr 5
  have r6 := hab3.fr 6
  have r7 := hab3.fr 7
  have r8 := hab3.fr 8
  have r9 := hab3.fr 9
  have r10 := hab3.fr 10
  have r11 := hab3.fr 11
  go_upto_region 20 with fail
  have hab4 := hab3.setQ (.slice Aq q.length cq) q
  have hro4 : BoxG (w3.setCell ⟨nb, 6, none⟩ (.slice Aq q.length cq)) w.heap.size zA (.slice none 0 0) (.int .u8 (0 : Nat)) (.int .u64 (0 : Nat)) (.string ⟨#[]⟩) (.slice none 0 0) (.slice none 0 0) := (Below.heap_setCell _ _ _ _ hl1).trans hro3
  have hbw4 : Below w.heap.size w (w3.setCell ⟨nb, 6, none⟩ (.slice Aq q.length cq)) := hbw3.setCell (by show w.heap.size ≤ nb; omega) _
  have hos : OwnG spanC 126 (w3.setCell ⟨nb, 6, none⟩ (.slice Aq q.length cq)) W2.heap.size (.slice Aq q.length cq) q := hoq.keep fun k hk => Below.heap_setCell _ _ _ _ (by have := (hoq.block k hk).1; show k ≠ nb; omega)
  have hol := (hos.mono (show w.heap.size + 1 ≤ W2.heap.size by omega)).low (Nat.le_refl _)
  have hsa := shows_set (lowm (w.heap.size + 1) (w3.setCell ⟨nb, 6, none⟩ (.slice Aq q.length cq))) _ Aq cq q (hol.shows.choose_spec.2) huq hlq
  have HEE : ∃ a A c dq v0 v1 v2 v3 v4, TkZ w (w3.setCell ⟨nb, 6, none⟩ (.slice Aq q.length cq)) nb a A c dq v0 v1 v2 v3 v4 ∧ a = { zA with q := q } ∧ a.q.length ≤ 1100 := ⟨{ zA with q := q }, Aq, cq, _, _, _, _, _, _, ⟨⟨_, _, _, _, _, hro4⟩, hab4, hnw, hsa, hbw4⟩, rfl, by dsimp only; omega⟩
  have HSP0 := Lib.hid hsp
  have HN := Lib.hid hN
  clear b0 b1 b2 b3 b4 b5 b6 b7 b8 b9 b10 b11 r3 r4 r5 r6 r7 r8 r9 r10 r11 hab3 hro3 hbw3 hb3 hab4 hro4 hbw4 hsa hsp
  generalize World.setCell _ ⟨nb, 6, none⟩ _ = V at *
  obtain ⟨a, A, c, dq, v0, v1, v2, v3, v4, hE, hae, hq11⟩ := HEE
  have HSP : Hid (∀ r', (readA 114 (some l)).2 = some r' → a = (readA 114 (some l)).1 ∧ l.drop N = r') := Lib.hid (fun r' hr' => by
    obtain ⟨e1, e2⟩ := HSP0.out r' hr'
    exact ⟨hae.trans e1.symm, e2.symm⟩)
  obtain ⟨yk, yn, ys, ya, yb, yc, yd, ye, yf, hxx⟩ := hE.sh.v.cells5
  simp only [List.cons.injEq, and_true] at hxx
  obtain ⟨rfl, rfl, rfl, rfl, rfl⟩ := hxx
  have HE := Lib.hid hE
  clear hE hae
  have hN1 : (N : Int) ≤ (l.length : Int) := by omega
  have hN2 : (N : Int) ≤ (c0 : Int) := by omega
  have hk := HE.out
  obtain ⟨u0, u1, u2, u3, u4, hro⟩ := hk.ro
  obtain ⟨⟨q0, q1, q2⟩, ⟨q3, q4, q5⟩, q6, q7, q8, q9, q10, q11⟩ := hro.cells
  obtain ⟨⟨p0, p1, p2⟩, ⟨p3, p4, p5⟩, p6, p7, p8, p9, p10, p11⟩ := hk.ab.cells
  have f0 := hro.fr 0
  have f1 := hro.fr 1
  have f2 := hro.fr 2
  have f3 := hro.fr 3
  have f4 := hro.fr 4
  have f5 := hro.fr 5
  have f6 := hro.fr 6
  have f7 := hro.fr 7
  have f8 := hro.fr 8
  have f9 := hro.fr 9
  have f10 := hro.fr 10
  have f11 := hro.fr 11
  have ne1 : ¬ nb = w.heap.size := by omega
  have ne2 : ¬ w.heap.size = nb := by omega
  have HD := Lib.hid hk.done
  unfold set12 at HD
  obtain ⟨ai, an, az, af, ag, ah, aq, av⟩ := a
  dsimp only at HD p0 p1 p2 p3 p4 p5 p6 q0 q1 q2 q3 q4 q5 hq11
  clear hk hro
  go_region
  all_goals
    have hd := HD.out
    clear p0 p1 p2 p3 p4 p5 p6 p7 p8 p9 p10 p11 q0 q1 q2 q3 q4 q5 q6 q7 q8 q9 q10 q11 f0 f1 f2 f3 f4 f5 f6 f7 f8 f9 f10 f11 ne1 ne2
    generalize World.setCell _ ⟨w.heap.size, 11, none⟩ _ = W11 at *
    have HD := Lib.hid hd
    clear hd
    go_wp2_with fail
    all_goals
      refine bodyPost_ret (mt_results rfl _ _ w.heap.size 52 _ (0, 0) _ rfl HD.out.1 Tryz.underlying52 rfl (by kernel_rfl)) rfl ?_
      have hbe : Below w.heap.size w W11.drew := below_drew1 HD.out.2.2
      exact ⟨⟨ai, an, az, af, ag, ah, aq, av⟩, A, c, dq, _, _, _, _, _, _, d0, l.drop N, rfl, (by first | exact HD.out.2.1 | exact HD.out.2.1.sub (low_out_drew _ _)), (by
        first
          | exact (HVK.out _ hbe).tail HN.out (Option.map (fun x => x.add N) A0) (fun _ => rfl)
          | (have hcN : c0 = N := by assumption
             have ht := (HVK.out _ hbe).tail HN.out A0 (fun hne => absurd hcN hne)
             rw [show c0 - N = 0 by omega] at ht
             exact ht)), (by rw [List.length_drop]; omega), hq11, (by first | exact HD.out.2.2 | exact below_drew1 HD.out.2.2), HSP.out, .inl rfl⟩
set_option maxRecDepth 100000 in
set_option maxHeartbeats 4000000 in
theorem take_118 (l : List UInt8) (v : Value) (d0 : Nat) (w : World) (hv : Shows w d0 v l) (hl : l.length ≤ 20000) :
    Calls Tryz.prog 30 #[.int .u8 (118 : Nat), v] w (TakeSaid 118 l d0 w) := by
  obtain ⟨A0, c0, rfl, hlc, hcm, _⟩ := id hv
  obtain ⟨W0, hW0⟩ : ∃ W0, W0 = w.alloc (Obj.cells #[.bool false, .int .u64 0, .string ⟨#[]⟩, .int .u32 0, .string ⟨#[]⟩, .string ⟨#[]⟩, .slice none 0 0, .int .u8 0, .int .u64 0, .string ⟨#[]⟩, .slice none 0 0, .slice none 0 0] 52) := ⟨_, rfl⟩
  have hb0 : Below w.heap.size w W0 := by rw [hW0]; exact below_box w _
  have hs0 : W0.heap.size = w.heap.size + 1 := by rw [hW0]; simp
  have HV0 := Lib.hid hv
  have HVK := Lib.hid (fun w' (hb : Below w.heap.size w w') => shows_kept hv hb)
  have HO := Lib.hid (qopen_any _ l d0 W0 (shows_kept hv hb0) (by omega))
  have HW0 := Lib.hid hW0
  have HS0 := Lib.hid (And.intro hs0 hb0)
  clear hW0 hb0 hs0 hv
  go_enter Tryz.func30, Tryz.ntmps30
  go_upto_region 1 with fail
  rw [← HW0.out]
  go_wp2_with fail
  refine HO.out.mono ?_
  rintro e w1 ⟨g, d1, rfl, hqs, hg, ⟨hd1, hd2⟩, hb1⟩
  have hB1 : Below (w.heap.size + 1) (w.alloc (Obj.cells #[.bool false, .int .u64 0, .string ⟨#[]⟩, .int .u32 0, .string ⟨#[]⟩, .string ⟨#[]⟩, .slice none 0 0, .int .u8 0, .int .u64 0, .string ⟨#[]⟩, .slice none 0 0, .slice none 0 0] 52)) w1 := by rw [← HW0.out, ← HS0.out.1]; exact hb1
  obtain ⟨hro1, hbw1⟩ := take_boxes w w1 hB1
  have hg1 : w.heap.size + 1 ≤ g := by rw [← HS0.out.1]; exact hg
  have hdd : w.heap.size + 1 ≤ d1 := by rw [← HS0.out.1]; exact hd1
  have hgl : g < w1.heap.size := hqs.lt
  have hbA : Below w1.heap.size w1 (w1.alloc (Obj.cells #[.bool false, .int .u64 0, .string ⟨#[]⟩, .int .u32 0, .string ⟨#[]⟩, .string ⟨#[]⟩, .slice none 0 0, .int .u8 0, .int .u64 0, .string ⟨#[]⟩, .slice none 0 0, .slice none 0 0] 52)) := below_box w1 _
  have hab2 := BoxG.zero w1
  have hro2 := hro1.kept hbA (Nat.le_refl _)
  have hqs2 : QS (w1.alloc (Obj.cells #[.bool false, .int .u64 0, .string ⟨#[]⟩, .int .u32 0, .string ⟨#[]⟩, .string ⟨#[]⟩, .slice none 0 0, .int .u8 0, .int .u64 0, .string ⟨#[]⟩, .slice none 0 0, .slice none 0 0] 52)) g d1 (some l) := hqs.keep hbA.size (hbA.block g hgl) (fun h => hbA.block d1 h)
  have hbw2 := hbw1.trans (hbA.mono hbw1.size)
  have hnb2 : w1.heap.size < (w1.alloc (Obj.cells #[.bool false, .int .u64 0, .string ⟨#[]⟩, .int .u32 0, .string ⟨#[]⟩, .string ⟨#[]⟩, .slice none 0 0, .int .u8 0, .int .u64 0, .string ⟨#[]⟩, .slice none 0 0, .slice none 0 0] 52)).heap.size := by simp
  clear hqs hg hd1 hb1 hB1 hro1 hbA
  go_upto_region 4 with fail
  generalize w1.alloc _ = W2 at *
  obtain ⟨nb, hnb⟩ : ∃ nb, nb = w1.heap.size := ⟨_, rfl⟩
  rw [← hnb] at hab2 hnb2 hgl ⊢
  have hng : g < nb := hgl
  have hnw : w.heap.size < nb := by omega
  have HX := Lib.hid (And.intro hro2 (And.intro hab2 (And.intro hqs2 hbw2)))
  clear hnb hbw1
  have HG := Lib.hid (fun w' (hb : Below w.heap.size w w') => qgetv_said A0 c0 d0 l w' (HVK.out w' hb) hl)
  clear hro2 hab2 hqs2 hbw2
  go_wp2_with fail
  refine (HG.out _ HX.out.2.2.2).mono ?_
  rintro e w3 ⟨vs, t, N, code, rfl, hb3, hst, hN, hsp⟩
  obtain ⟨xk, xn, xs, xa, xb, xc, xd, xe, xf, rfl⟩ := hst.cells5
  have hab3 := HX.out.2.1.kept hb3 (Nat.le_refl _)
  have hro3 := HX.out.1.kept hb3 (Nat.le_refl _)
  have hbw3 : Below w.heap.size w w3 := HX.out.2.2.2.trans (hb3.mono HX.out.2.2.2.size)
  have hl1 : w.heap.size ≠ nb := by omega
  obtain ⟨⟨b0, b1, b2⟩, ⟨b3, b4, b5⟩, b6, b7, b8, b9, b10, b11⟩ := hab3.cells
  have r3 := hab3.fr 3
  have r4 := hab3.fr 4
  have r5 := hab3.fr 5
  have r6 := hab3.fr 6
  have r7 := hab3.fr 7
  have r8 := hab3.fr 8
  have r9 := hab3.fr 9
  have r10 := hab3.fr 10
  have r11 := hab3.fr 11
  go_upto_region 20 with fail
  have hab4 := hab3.setV (.int .u8 xk) (.int .u64 xn) (.string xs) (.slice xa xb xc) (.slice xd xe xf) t
  have hro4 : BoxG (((((w3.setCell ⟨nb, 7, none⟩ (.int .u8 xk)).setCell ⟨nb, 8, none⟩ (.int .u64 xn)).setCell ⟨nb, 9, none⟩ (.string xs)).setCell ⟨nb, 10, none⟩ (.slice xa xb xc)).setCell ⟨nb, 11, none⟩ (.slice xd xe xf)) w.heap.size zA (.slice none 0 0) (.int .u8 (0 : Nat)) (.int .u64 (0 : Nat)) (.string ⟨#[]⟩) (.slice none 0 0) (.slice none 0 0) := ((Below.heap_setCell _ _ _ _ hl1).trans ((Below.heap_setCell _ _ _ _ hl1).trans ((Below.heap_setCell _ _ _ _ hl1).trans ((Below.heap_setCell _ _ _ _ hl1).trans (Below.heap_setCell _ _ _ _ hl1))))).trans hro3
  have hnbw : w.heap.size ≤ nb := by omega
  have hbw4 : Below w.heap.size w (((((w3.setCell ⟨nb, 7, none⟩ (.int .u8 xk)).setCell ⟨nb, 8, none⟩ (.int .u64 xn)).setCell ⟨nb, 9, none⟩ (.string xs)).setCell ⟨nb, 10, none⟩ (.slice xa xb xc)).setCell ⟨nb, 11, none⟩ (.slice xd xe xf)) := ((((hbw3.setCell hnbw _).setCell hnbw _).setCell hnbw _).setCell hnbw _).setCell hnbw _
  have hnb1 : nb < W2.heap.size := hnb2
  have hss : Sub (lowm W2.heap.size w3) (lowm (w.heap.size + 1) (((((w3.setCell ⟨nb, 7, none⟩ (.int .u8 xk)).setCell ⟨nb, 8, none⟩ (.int .u64 xn)).setCell ⟨nb, 9, none⟩ (.string xs)).setCell ⟨nb, 10, none⟩ (.slice xa xb xc)).setCell ⟨nb, 11, none⟩ (.slice xd xe xf))) :=
    (((((low_set hnb1 7 _).trans (low_set hnb1 8 _)).trans (low_set hnb1 9 _)).trans (low_set hnb1 10 _)).trans (low_set hnb1 11 _)).trans (low_anti (by omega))
  have hsa := shows_val (lowm (w.heap.size + 1) (((((w3.setCell ⟨nb, 7, none⟩ (.int .u8 xk)).setCell ⟨nb, 8, none⟩ (.int .u64 xn)).setCell ⟨nb, 9, none⟩ (.string xs)).setCell ⟨nb, 10, none⟩ (.slice xa xb xc)).setCell ⟨nb, 11, none⟩ (.slice xd xe xf))) 0 t _ _ _ _ _ (hst.sub hss)
  have HEE : ∃ a A c dq v0 v1 v2 v3 v4, TkZ w (((((w3.setCell ⟨nb, 7, none⟩ (.int .u8 xk)).setCell ⟨nb, 8, none⟩ (.int .u64 xn)).setCell ⟨nb, 9, none⟩ (.string xs)).setCell ⟨nb, 10, none⟩ (.slice xa xb xc)).setCell ⟨nb, 11, none⟩ (.slice xd xe xf)) nb a A c dq v0 v1 v2 v3 v4 ∧ a = { zA with v := t } ∧ a.q.length ≤ 1100 := ⟨{ zA with v := t }, none, 0, 0, _, _, _, _, _, ⟨⟨_, _, _, _, _, hro4⟩, hab4, hnw, hsa, hbw4⟩, rfl, Nat.zero_le _⟩
  have HSP0 := Lib.hid hsp
  have HN := Lib.hid hN
  clear b0 b1 b2 b3 b4 b5 b6 b7 b8 b9 b10 b11 r3 r4 r5 r6 r7 r8 r9 r10 r11 hab3 hro3 hbw3 hb3 hab4 hro4 hbw4 hsa hsp
  generalize World.setCell _ ⟨nb, 11, none⟩ _ = V at *
  obtain ⟨a, A, c, dq, v0, v1, v2, v3, v4, hE, hae, hq11⟩ := HEE
  have HSP : Hid (∀ r', (readA 118 (some l)).2 = some r' → a = (readA 118 (some l)).1 ∧ l.drop N = r') := Lib.hid (fun r' hr' => by
    obtain ⟨e1, e2⟩ := HSP0.out r' hr'
    exact ⟨hae.trans e1.symm, e2.symm⟩)
  obtain ⟨yk, yn, ys, ya, yb, yc, yd, ye, yf, hxx⟩ := hE.sh.v.cells5
  simp only [List.cons.injEq, and_true] at hxx
  obtain ⟨rfl, rfl, rfl, rfl, rfl⟩ := hxx
  have HE := Lib.hid hE
  clear hE hae
  have hN1 : (N : Int) ≤ (l.length : Int) := by omega
  have hN2 : (N : Int) ≤ (c0 : Int) := by omega
  have hk := HE.out
  obtain ⟨u0, u1, u2, u3, u4, hro⟩ := hk.ro
  obtain ⟨⟨q0, q1, q2⟩, ⟨q3, q4, q5⟩, q6, q7, q8, q9, q10, q11⟩ := hro.cells
  obtain ⟨⟨p0, p1, p2⟩, ⟨p3, p4, p5⟩, p6, p7, p8, p9, p10, p11⟩ := hk.ab.cells
  have f0 := hro.fr 0
  have f1 := hro.fr 1
  have f2 := hro.fr 2
  have f3 := hro.fr 3
  have f4 := hro.fr 4
  have f5 := hro.fr 5
  have f6 := hro.fr 6
  have f7 := hro.fr 7
  have f8 := hro.fr 8
  have f9 := hro.fr 9
  have f10 := hro.fr 10
  have f11 := hro.fr 11
  have ne1 : ¬ nb = w.heap.size := by omega
  have ne2 : ¬ w.heap.size = nb := by omega
  have HD := Lib.hid hk.done
  unfold set12 at HD
  obtain ⟨ai, an, az, af, ag, ah, aq, av⟩ := a
  dsimp only at HD p0 p1 p2 p3 p4 p5 p6 q0 q1 q2 q3 q4 q5 hq11
  clear hk hro
  go_region
  all_goals
    have hd := HD.out
    clear p0 p1 p2 p3 p4 p5 p6 p7 p8 p9 p10 p11 q0 q1 q2 q3 q4 q5 q6 q7 q8 q9 q10 q11 f0 f1 f2 f3 f4 f5 f6 f7 f8 f9 f10 f11 ne1 ne2
    generalize World.setCell _ ⟨w.heap.size, 11, none⟩ _ = W11 at *
    have HD := Lib.hid hd
    clear hd
    go_wp2_with fail
    all_goals
      refine bodyPost_ret (mt_results rfl _ _ w.heap.size 52 _ (0, 0) _ rfl HD.out.1 Tryz.underlying52 rfl (by kernel_rfl)) rfl ?_
      have hbe : Below w.heap.size w W11.drew := below_drew1 HD.out.2.2
      exact ⟨⟨ai, an, az, af, ag, ah, aq, av⟩, A, c, dq, _, _, _, _, _, _, d0, l.drop N, rfl, (by first | exact HD.out.2.1 | exact HD.out.2.1.sub (low_out_drew _ _)), (by
        first
          | exact (HVK.out _ hbe).tail HN.out (Option.map (fun x => x.add N) A0) (fun _ => rfl)
          | (have hcN : c0 = N := by assumption
             have ht := (HVK.out _ hbe).tail HN.out A0 (fun hne => absurd hcN hne)
             rw [show c0 - N = 0 by omega] at ht
             exact ht)), (by rw [List.length_drop]; omega), hq11, (by first | exact HD.out.2.2 | exact below_drew1 HD.out.2.2), HSP.out, .inl rfl⟩
theorem mt_take_any (k : Nat) (hk : lett k) (l : List UInt8) (v : Value) (d0 : Nat) (w : World) (hv : Shows w d0 v l) (hl : l.length ≤ 20000) :
  Calls Tryz.prog 30 #[.int .u8 k, v] w (TakeSaid k l d0 w) := by
 rcases hk with rfl | (rfl | rfl | rfl) | (rfl | rfl) | rfl | rfl | rfl
 ·exact take_98 l v d0 w hv hl
 ·exact take_110 l v d0 w hv hl
 ·exact take_119 l v d0 w hv hl
 ·exact take_100 l v d0 w hv hl
 ·exact take_115 l v d0 w hv hl
 ·exact take_116 l v d0 w hv hl
 ·exact take_120 l v d0 w hv hl
 ·exact take_114 l v d0 w hv hl
 ·exact take_118 l v d0 w hv hl
end Go.Proofs.YtpbdnfonflmncaaGreat
