/- Equal productions: eqSym, eqSymS, eqProd, eqProdS, eqCfg. -/
import Derived.Test.YtkgiklmdpdakbaaC2
namespace Go.Proofs.Ytkgiklmdpdakbaa
open Go.RowKit
set_option linter.unusedVariables false

set_option maxRecDepth 100000 in
set_option maxHeartbeats 1000000 in
theorem eqSy_same (x y z : Int) (w : World) :
    Calls Try.prog 78 #[.agg #[.int .i64 x, .int .i64 y, .int .i64 z], .agg #[.int .i64 x, .int .i64 y, .int .i64 z]] w fun e w' => e = .returned (.bool true) ∧ Below w.heap.size w w' := by
  have h0 : (x != x) = false := by simp
  have h1 : (y != y) = false := by simp
  have h2 : (z != z) = false := by simp
  go_enter Try.func78, Try.ntmps78
  go_wp2
  go_ret
  exact ⟨rfl, (below_box _).alloc (by simp) _⟩

set_option maxRecDepth 100000 in
set_option maxHeartbeats 1000000 in
theorem eqSyms_same (a a' : Option Addr) (c c' : Nat) (ss : List Sy) (w : World) (hr : Syms w a ss) (hr' : Syms w a' ss) (hm : ss.length ≤ 1048576) :
    Calls Try.prog 63 #[.slice a ss.length c, .slice a' ss.length c'] w fun e w' => e = .returned (.bool true) ∧ Below w.heap.size w w' := by
  have HR := Lib.hid hr
  have HR' := Lib.hid hr'
  clear hr hr'
  have hne : ((ss.length : Int) != (ss.length : Int)) = false := by simp
  go_enter Try.func63, Try.ntmps63
  go_wp2
  go_loopw [5] (fun i wr => ∃ k : Nat, k ≤ ss.length ∧ i = .int .i64 k ∧ Below w.heap.size w wr) (fun i _ => ss.length - (intOf i).toNat)
  case atStart => exact ⟨0, Nat.zero_le _, rfl, Below.refl _ _⟩
  case round =>
    obtain ⟨k, hk, rfl, hb⟩ := hrel
    by_cases hlt : k < ss.length
    · obtain ⟨b, off, rfl, hn⟩ := (HR.out.keep hb).at_ hlt
      obtain ⟨b', off', rfl, hn'⟩ := (HR'.out.keep hb).at_ hlt
      have hlt' : (k : Int) < (ss.length : Int) := by omega
      obtain ⟨c0, c1, c2⟩ := hn
      obtain ⟨d0, d1, d2⟩ := hn'
      generalize hnk : ss[k] = nk at *
      clear hnk
      go_wp2
      go_region_held3 (fun X => X.cell? ⟨b, off + k * 3, none⟩ = some (.int .i64 nk.head) ∧ X.cell? ⟨b, off + k * 3 + 1, none⟩ = some (.int .i64 nk.low) ∧ X.cell? ⟨b, off + k * 3 + 2, none⟩ = some (.int .i64 nk.high) ∧ X.cell? ⟨b', off' + k * 3, none⟩ = some (.int .i64 nk.head) ∧ X.cell? ⟨b', off' + k * 3 + 1, none⟩ = some (.int .i64 nk.low) ∧ X.cell? ⟨b', off' + k * 3 + 2, none⟩ = some (.int .i64 nk.high))
        (first | exact ⟨cell_keep hb2 c0, cell_keep hb2 c1, cell_keep hb2 c2, cell_keep hb2 d0, cell_keep hb2 d1, cell_keep hb2 d2⟩ | exact ⟨c0, c1, c2, d0, d1, d2⟩)
        (first | (go_at_call 78; refine (eqSy_same nk.head nk.low nk.high _).mono ?_; rintro e w2 ⟨rfl, hb2⟩))
      have hb' : Below w.heap.size w w2 := hb.drew.trans (hb2.mono hb.drew.size)
      clear hb2 c0 c1 c2 d0 d1 d2 hb
      go_wp2
      go_roundw
      case rel => exact ⟨k + 1, by omega, by go_num, hb'⟩
      case measure => simp [intOf]; omega
    · have hlt' : ¬ (k : Int) < (ss.length : Int) := by omega
      go_wp2
      go_ret
      exact ⟨rfl, hb⟩

set_option maxRecDepth 100000 in
set_option maxHeartbeats 1000000 in
theorem eqPd_same (p : Pd) (K K' : Option Addr) (kc kc' : Nat) (w : World) (hk : Syms w K p.body) (hk' : Syms w K' p.body) (h1 : p.body.length ≤ 1048576) :
    Calls Try.prog 46 #[.agg #[.int .i64 p.head, .slice K p.body.length kc], .agg #[.int .i64 p.head, .slice K' p.body.length kc']] w fun e w' => e = .returned (.bool true) ∧ Below w.heap.size w w' := by
  have HK := Lib.hid hk
  have HK' := Lib.hid hk'
  clear hk hk'
  have hne : (p.head != p.head) = false := by simp
  go_enter Try.func46, Try.ntmps46
  go_wp2_with fail
  refine (eqSyms_same K K' kc kc' p.body _ (HK.out.keep ((below_box _).alloc (by simp) _)) (HK'.out.keep ((below_box _).alloc (by simp) _)) h1).mono ?_
  rintro e w1 ⟨rfl, hb⟩
  go_wp2
  go_ret
  exact ⟨rfl, ((below_box _).alloc (by simp) _).trans (hb.mono (by simp; omega))⟩

set_option maxRecDepth 100000 in
set_option maxHeartbeats 1000000 in
theorem eqPds_same (a a' : Option Addr) (c c' : Nat) (ps : List Pd) (w : World) (hr : Pds w a ps) (hr' : Pds w a' ps) (hm : ps.length ≤ 1048576) (hs : Small ps) :
    Calls Try.prog 32 #[.slice a ps.length c, .slice a' ps.length c'] w fun e w' => e = .returned (.bool true) ∧ Below w.heap.size w w' := by
  have HR := Lib.hid hr
  have HR' := Lib.hid hr'
  have HS := Lib.hid hs
  clear hr hr' hs
  have hne : ((ps.length : Int) != (ps.length : Int)) = false := by simp
  go_enter Try.func32, Try.ntmps32
  go_wp2
  go_loopw [5] (fun i wr => ∃ k : Nat, k ≤ ps.length ∧ i = .int .i64 k ∧ Below w.heap.size w wr) (fun i _ => ps.length - (intOf i).toNat)
  case atStart => exact ⟨0, Nat.zero_le _, rfl, Below.refl _ _⟩
  case round =>
    obtain ⟨k, hk, rfl, hb⟩ := hrel
    by_cases hlt : k < ps.length
    · obtain ⟨b, off, rfl, K, kc, hn⟩ := (HR.out.keep hb).at_ hlt
      obtain ⟨b', off', rfl, K', kc', hn'⟩ := (HR'.out.keep hb).at_ hlt
      have hlt' : (k : Int) < (ps.length : Int) := by omega
      have hz1 := HS.out _ (List.getElem_mem hlt)
      have c0 := hn.c0
      have c1 := hn.c1
      have d0 := hn'.c0
      have d1 := hn'.c1
      generalize hnk : ps[k] = nk at *
      clear hnk
      go_wp2
      go_region_held3 (fun X => X.cell? ⟨b, off + k * 2, none⟩ = some (.int .i64 nk.head) ∧ X.cell? ⟨b, off + k * 2 + 1, none⟩ = some (.slice K nk.body.length kc) ∧ X.cell? ⟨b', off' + k * 2, none⟩ = some (.int .i64 nk.head) ∧ X.cell? ⟨b', off' + k * 2 + 1, none⟩ = some (.slice K' nk.body.length kc'))
        (first | exact ⟨cell_keep hb2 c0, cell_keep hb2 c1, cell_keep hb2 d0, cell_keep hb2 d1⟩ | exact ⟨c0, c1, d0, d1⟩)
        (first | (go_at_call 46; refine (eqPd_same nk K K' kc kc' _ hn.k.drew hn'.k.drew hz1).mono ?_; rintro e w2 ⟨rfl, hb2⟩))
      have hb' : Below w.heap.size w w2 := hb.drew.trans (hb2.mono hb.drew.size)
      clear hb2 hn hn' c0 c1 d0 d1 hb
      go_wp2
      go_roundw
      case rel => exact ⟨k + 1, by omega, by go_num, hb'⟩
      case measure => simp [intOf]; omega
    · have hlt' : ¬ (k : Int) < (ps.length : Int) := by omega
      go_wp2
      go_ret
      exact ⟨rfl, hb⟩

set_option maxRecDepth 100000 in
set_option maxHeartbeats 1000000 in
theorem eqCfg_same (a a' : Option Addr) (c c' : Nat) (hd : Int) (ps : List Pd) (w : World) (hr : Pds w a ps) (hr' : Pds w a' ps) (hm : ps.length ≤ 1048576) (hs : Small ps) :
    Calls Try.prog 12 #[.agg #[.int .i64 hd, .slice a ps.length c], .agg #[.int .i64 hd, .slice a' ps.length c']] w fun e w' => e = .returned (.bool true) ∧ Below w.heap.size w w' := by
  have HR := Lib.hid hr
  have HR' := Lib.hid hr'
  have HS := Lib.hid hs
  clear hr hr' hs
  have hne : (hd != hd) = false := by simp
  go_enter Try.func12, Try.ntmps12
  go_wp2_with fail
  refine (eqPds_same a a' c c' ps _ (HR.out.keep ((below_box _).alloc (by simp) _)) (HR'.out.keep ((below_box _).alloc (by simp) _)) hm HS.out).mono ?_
  rintro e w1 ⟨rfl, hb⟩
  go_wp2
  go_ret
  exact ⟨rfl, ((below_box _).alloc (by simp) _).trans (hb.mono (by simp; omega))⟩

/-- A law's answer: true, and nothing that was there has turned. -/
def True_ (w : World) (e : Ending) (w' : World) : Prop := e = .returned (.bool true) ∧ Below w.heap.size w w'

end Go.Proofs.Ytkgiklmdpdakbaa

/- Whether productions are ok: the symbols. -/
namespace Go.Proofs.Ytkgiklmdpdakbaa
open Go.RowKit
set_option linter.unusedVariables false

/-- Whether a symbol is in form. -/
def symOkB (hd : Int) (s : Sy) : Bool :=
  if s.head = -1 then decide (0 ≤ s.low) && decide (s.low ≤ s.high) && decide (s.high ≤ 255)
  else decide (0 ≤ s.head) && decide (s.head < hd) && decide (s.low = 0) && decide (s.high = 0)

set_option maxRecDepth 100000 in
set_option maxHeartbeats 1000000 in
theorem isSym_any (s : Sy) (hd : Int) (w : World) :
    Calls Try.prog 56 #[.agg #[.int .i64 s.head, .int .i64 s.low, .int .i64 s.high], .int .i64 hd] w fun e w' => e = .returned (.bool (symOkB hd s)) ∧ Below w.heap.size w w' := by
  by_cases h : s.head = -1
  · have h' : (s.head == -1) = true := by simp [h]
    have HH := Lib.hid h
    clear h
    go_enter Try.func56, Try.ntmps56
    go_wp2
    all_goals
      go_ret
      exact ⟨ret_bool (by unfold symOkB; rw [if_pos HH.out]; simp [*] <;> omega), below_box _⟩
  · have h' : (s.head == -1) = false := by simp [h]
    have HH := Lib.hid h
    clear h
    go_enter Try.func56, Try.ntmps56
    go_wp2
    all_goals
      go_ret
      exact ⟨ret_bool (by unfold symOkB; rw [if_neg HH.out]; by_cases q0 : s.low = 0 <;> by_cases q1 : s.high = 0 <;> simp [*] <;> omega), below_box _⟩

set_option maxRecDepth 100000 in
set_option maxHeartbeats 1000000 in
theorem l3Sym_any (s : Sy) (hd : Int) (a : Option Addr) (n c : Nat) (w : World) (h1 : 1 ≤ hd) (h2 : hd ≤ 200) :
    Calls Try.prog 29 #[.agg #[.int .i64 hd, .slice a n c], .agg #[.int .i64 s.head, .int .i64 s.low, .int .i64 s.high]] w fun e w' => e = .returned (.bool (symOkB hd s)) ∧ Below w.heap.size w w' := by
  by_cases h : s.head = -1
  · have h' : (s.head == -1) = true := by simp [h]
    have HH := Lib.hid h
    clear h
    cases q : inB s.low 0 255
    · have Q := Lib.hid q
      go_enter Try.func29, Try.ntmps29
      go_wp2_with (go_at_call 28; refine (in_any _ _ _ _).mono ?_; rintro e w' ⟨rfl, rfl⟩)
      go_ret
      exact ⟨ret_bool (by have Q' := Q.out; unfold inB at Q'; unfold symOkB; rw [if_pos HH.out]; simp at Q' ⊢; omega), (below_box _).alloc (by simp) _⟩
    · have Q := Lib.hid q
      go_enter Try.func29, Try.ntmps29
      go_wp2_with (go_at_call 28; refine (in_any _ _ _ _).mono ?_; rintro e w' ⟨rfl, rfl⟩)
      go_ret
      exact ⟨ret_bool (by have Q' := Q.out; unfold inB at Q' ⊢; unfold symOkB; rw [if_pos HH.out]; simp at Q' ⊢; rcases Q' with ⟨x, y⟩; simp [x]), (below_box _).alloc (by simp) _⟩
  · have h' : (s.head == -1) = false := by simp [h]
    have HH := Lib.hid h
    clear h
    cases q : inB s.head 0 (hd - 1)
    · have Q := Lib.hid q
      go_enter Try.func29, Try.ntmps29
      go_wp2_with (go_at_call 28; refine (in_any _ _ _ _).mono ?_; rintro e w' ⟨rfl, rfl⟩)
      go_ret
      exact ⟨ret_bool (by have Q' := Q.out; unfold inB at Q'; unfold symOkB; rw [if_neg HH.out]; simp at Q' ⊢; omega), (below_box _).alloc (by simp) _⟩
    · have Q := Lib.hid q
      go_enter Try.func29, Try.ntmps29
      go_wp2_with (go_at_call 28; refine (in_any _ _ _ _).mono ?_; rintro e w' ⟨rfl, rfl⟩)
      all_goals
        go_ret
        exact ⟨ret_bool (by have Q' := Q.out; unfold inB at Q'; unfold symOkB; rw [if_neg HH.out]; simp at Q'; by_cases q0 : s.low = 0 <;> by_cases q1 : s.high = 0 <;> simp [*] <;> omega), (below_box _).alloc (by simp) _⟩

set_option maxRecDepth 100000 in
set_option maxHeartbeats 1000000 in
theorem clos42 (s : Sy) (hd : Int) (D : Nat) (w : World) (hD : w.cell? ⟨D, 0, none⟩ = some (.int .i64 hd)) :
    Calls Try.prog 55 #[.agg #[.int .i64 s.head, .int .i64 s.low, .int .i64 s.high], .pointer (some ⟨D, 0, none⟩)] w fun e w' => e = .returned (.bool (!symOkB hd s)) ∧ Below w.heap.size w w' := by
  have hDl := cell_lt hD
  simp only at hDl
  go_enter Try.func55, Try.ntmps55
  go_wp2_with fail
  refine (isSym_any s hd _).mono ?_
  rintro e w2 ⟨rfl, hb2⟩
  go_wp2
  go_ret
  exact ⟨rfl, (below_box _).trans (hb2.mono (by simp))⟩

/-- The place of the first symbol that is not in form, or -1. -/
def FirstBad (hd : Int) (ss : List Sy) (r : Int) : Prop := (r = -1 ∧ ∀ s ∈ ss, symOkB hd s = true) ∨ (0 ≤ r ∧ ∃ s ∈ ss, symOkB hd s = false)

set_option maxRecDepth 100000 in
set_option maxHeartbeats 1000000 in
theorem idx41 (ss : List Sy) (hd : Int) (D : Nat) (a : Option Addr) (c : Nat) (w : World) (hD : w.cell? ⟨D, 0, none⟩ = some (.int .i64 hd)) (hr : Syms w a ss) (hm : ss.length ≤ 1048576) :
    Calls Try.prog 54 #[.slice a ss.length c, .func (.func 55) #[] #[.pointer (some ⟨D, 0, none⟩)]] w fun e w' => ∃ r : Int, e = .returned (.int .i64 r) ∧ FirstBad hd ss r ∧ Below w.heap.size w w' := by
  have HR := Lib.hid hr
  have HD := Lib.hid hD
  clear hr hD
  go_enter Try.func54, Try.ntmps54
  go_wp2
  go_loopw [9] (fun i wr => ∃ k : Nat, k ≤ ss.length ∧ i = .int .i64 k ∧ Hid (∀ j (h : j < ss.length), j < k → symOkB hd ss[j] = true) ∧ Below w.heap.size w wr) (fun i _ => ss.length - (intOf i).toNat)
  case atStart => exact ⟨0, Nat.zero_le _, rfl, fun j _ hj => by omega, Below.refl _ _⟩
  case round =>
    obtain ⟨k, hk, rfl, HK, hb⟩ := hrel
    by_cases hlt : k < ss.length
    · obtain ⟨b, off, rfl, hn⟩ := (HR.out.keep hb).at_ hlt
      have hlt' : (k : Int) < (ss.length : Int) := by omega
      obtain ⟨c0, c1, c2⟩ := hn
      go_wp2_with fail
      refine (clos42 ss[k] hd D _ (cell_alloc (cell_keep hb HD.out) _)).mono ?_
      rintro e w2 ⟨rfl, hb2⟩
      have hb' : Below w.heap.size w w2 := (hb.alloc hb.size _).trans (hb2.mono (by have := hb.size; simp; omega))
      clear hb2 c0 c1 c2 hb
      cases q : symOkB hd ss[k]
      · have Q := Lib.hid q
        go_wp2
        go_ret
        exact ⟨k, rfl, .inr ⟨by omega, ss[k], List.getElem_mem hlt, Q.out⟩, hb'⟩
      · have Q := Lib.hid q
        go_wp2
        go_roundw
        case rel => exact ⟨k + 1, by omega, by go_num, fun j h hj => by
          rcases Nat.lt_succ_iff_lt_or_eq.1 hj with h3 | h3
          · exact HK j h h3
          · subst h3; exact Q.out, hb'⟩
        case measure => simp [intOf]; omega
    · have hlt' : ¬ (k : Int) < (ss.length : Int) := by omega
      go_wp2
      go_ret
      refine ⟨-1, rfl, .inl ⟨rfl, fun s hs => ?_⟩, hb⟩
      obtain ⟨j, hj, rfl⟩ := List.getElem_of_mem hs
      exact HK j hj (by omega)

/-- Whether a body is in form. -/
def bodyOkB (hd : Int) (ss : List Sy) : Bool := decide (ss.length ≤ 160) && ss.all (symOkB hd)

theorem FirstBad.lt {hd : Int} {ss : List Sy} {r : Int} (h : FirstBad hd ss r) : decide (r < 0) = ss.all (symOkB hd) := by
  rcases h with ⟨rfl, h⟩ | ⟨h0, s, hs, h⟩
  · have : ss.all (symOkB hd) = true := List.all_eq_true.2 h
    rw [this]; rfl
  · have : ss.all (symOkB hd) = false := by
      rw [List.all_eq_false]; exact ⟨s, hs, by simp [h]⟩
    rw [this]; simp; omega

set_option maxRecDepth 100000 in
set_option maxHeartbeats 1000000 in
theorem isBody_any (ss : List Sy) (hd : Int) (a : Option Addr) (c : Nat) (w : World) (hr : Syms w a ss) (hm : ss.length ≤ 1048576) :
    Calls Try.prog 38 #[.slice a ss.length c, .int .i64 hd] w fun e w' => e = .returned (.bool (bodyOkB hd ss)) ∧ Below w.heap.size w w' := by
  have HR := Lib.hid hr
  clear hr
  by_cases h : ss.length ≤ 160
  · have h' : (ss.length : Int) ≤ 160 := by omega
    have HH := Lib.hid h
    go_enter Try.func38, Try.ntmps38
    go_wp2_with fail
    refine (idx41 ss hd w.heap.size a c _ (by simp) (HR.out.keep (below_box _)) hm).mono ?_
    rintro e w2 ⟨r, rfl, hf, hb2⟩
    go_wp2
    go_ret
    exact ⟨ret_bool (by rw [hf.lt]; unfold bodyOkB; simp [HH.out]), (below_box _).trans (hb2.mono (by simp))⟩
  · have h' : ¬ (ss.length : Int) ≤ 160 := by omega
    have HH := Lib.hid h
    go_enter Try.func38, Try.ntmps38
    go_wp2
    go_ret
    exact ⟨ret_bool (by unfold bodyOkB; simp [HH.out]), below_box _⟩

end Go.Proofs.Ytkgiklmdpdakbaa

/- Whether productions are ok: impl.CfgOk and spec.CfgOk, one and the same. -/
namespace Go.Proofs.Ytkgiklmdpdakbaa
open Go.RowKit
set_option linter.unusedVariables false

def pdOkB (hd last : Int) (p : Pd) : Bool := decide (0 ≤ p.head) && decide (last ≤ p.head) && decide (p.head < hd) && bodyOkB hd p.body

/-- The head of the production ahead of a place, or 0. -/
def lastAt (ps : List Pd) : Nat → Int
  | 0 => 0
  | j + 1 => match ps[j]? with | some p => p.head | none => 0
theorem lastAt_succ {ps : List Pd} {k : Nat} (h : k < ps.length) : lastAt ps (k + 1) = ps[k].head := by
  show (match ps[k]? with | some p => p.head | none => 0) = _
  rw [List.getElem?_eq_getElem h]

def OkTo (hd : Int) (ps : List Pd) (k : Nat) : Prop := ∀ j (h : j < ps.length), j < k → pdOkB hd (lastAt ps j) ps[j] = true
theorem OkTo.succ {hd : Int} {ps : List Pd} {k : Nat} (h : OkTo hd ps k) (hk : k < ps.length) (hp : pdOkB hd (lastAt ps k) ps[k] = true) : OkTo hd ps (k + 1) := by
  intro j hj hjk
  rcases Nat.lt_succ_iff_lt_or_eq.1 hjk with h3 | h3
  · exact h j hj h3
  · subst h3; exact hp

def allOk (hd : Int) (ps : List Pd) : Bool := (List.range ps.length).all (fun j => match ps[j]? with | some p => pdOkB hd (lastAt ps j) p | none => true)
theorem allOk_iff {hd : Int} {ps : List Pd} : allOk hd ps = true ↔ OkTo hd ps ps.length := by
  unfold allOk
  rw [List.all_eq_true]
  constructor
  · intro h j hj _
    have := h j (List.mem_range.2 hj)
    rw [List.getElem?_eq_getElem hj] at this
    exact this
  · intro h j hj
    have hj' := List.mem_range.1 hj
    rw [List.getElem?_eq_getElem hj']
    exact h j hj' hj'
theorem allOk_bad {hd : Int} {ps : List Pd} {k : Nat} (hk : k < ps.length) (hp : pdOkB hd (lastAt ps k) ps[k] = false) : allOk hd ps = false := by
  cases h : allOk hd ps
  · rfl
  · have := allOk_iff.1 h k hk hk
    rw [hp] at this; cases this

def cfgOkB (hd : Int) (ps : List Pd) : Bool := decide (1 ≤ hd) && decide (hd ≤ 200) && decide (ps.length ≤ 400) && allOk hd ps

set_option maxRecDepth 100000 in
set_option maxHeartbeats 2000000 in
theorem implOk_any (hd : Int) (ps : List Pd) (a : Option Addr) (c : Nat) (w : World) (hr : Pds w a ps) (hm : ps.length ≤ 1048576) (hs : Small ps) :
    Calls Try.prog 19 #[.agg #[.int .i64 hd, .slice a ps.length c]] w fun e w' => e = .returned (.bool (cfgOkB hd ps)) ∧ Below w.heap.size w w' := by
  have HR := Lib.hid hr
  have HS := Lib.hid hs
  clear hr hs
  by_cases h1 : hd < 1
  · have H := Lib.hid h1
    go_enter Try.func19, Try.ntmps19
    go_wp2
    go_ret
    exact ⟨ret_bool (by have := H.out; unfold cfgOkB; rw [decide_eq_false (by omega : ¬ 1 ≤ hd)]; rfl), below_box _⟩
  · by_cases h2 : 200 < hd
    · have H := Lib.hid h2
      go_enter Try.func19, Try.ntmps19
      go_wp2
      go_ret
      exact ⟨ret_bool (by have := H.out; unfold cfgOkB; rw [decide_eq_false (by omega : ¬ hd ≤ 200)]; simp), below_box _⟩
    · by_cases h3 : 400 < ps.length
      · have h3' : (400 : Int) < ps.length := by omega
        have H := Lib.hid h3
        go_enter Try.func19, Try.ntmps19
        go_wp2
        go_ret
        exact ⟨ret_bool (by have := H.out; unfold cfgOkB; rw [decide_eq_false (by omega : ¬ ps.length ≤ 400)]; simp), below_box _⟩
      · have h3' : ¬ (400 : Int) < ps.length := by omega
        have EQ : Hid (cfgOkB hd ps = allOk hd ps) := by
          show _ = _
          unfold cfgOkB
          rw [decide_eq_true (by omega : 1 ≤ hd), decide_eq_true (by omega : hd ≤ 200), decide_eq_true (by omega : ps.length ≤ 400)]; rfl
        go_enter Try.func19, Try.ntmps19
        go_wp2
        have HB0 : Below w.heap.size w (w.alloc (.cells #[.int .i64 hd, .slice a ps.length c] 25)) := below_box _
        have HR1 := Lib.hid (HR.out.keep HB0)
        have HC0 : (w.alloc (.cells #[.int .i64 hd, .slice a ps.length c] 25)).cell? ⟨w.heap.size, 0, none⟩ = some (.int .i64 hd) := by simp
        have HZ : (w.alloc (.cells #[.int .i64 hd, .slice a ps.length c] 25)).heap.size = w.heap.size + 1 := by simp
        generalize w.alloc (.cells #[.int .i64 hd, .slice a ps.length c] 25) = W at *
        have HB := Lib.hid HB0
        have HC := Lib.hid HC0
        clear HB0 HC0
        go_loopw [3, 23] (fun l i wr => ∃ k : Nat, k ≤ ps.length ∧ i = .int .i64 k ∧ (∃ z : Int, l = .int .i64 z ∧ z = lastAt ps k ∧ 0 ≤ z) ∧ Hid (OkTo hd ps k) ∧ Below W.heap.size W wr) (fun _ i _ => ps.length - (intOf i).toNat)
        case atStart => exact ⟨0, Nat.zero_le _, rfl, ⟨0, rfl, rfl, by omega⟩, fun j _ hj => by omega, Below.refl _ _⟩
        case round =>
          obtain ⟨k, hk, rfl, ⟨z, rfl, hz, hz0⟩, HK, hb⟩ := hrel
          have HZL := Lib.hid hz
          clear hz
          by_cases hlt : k < ps.length
          · obtain ⟨b, off, rfl, K, kc, hn⟩ := (HR1.out.keep hb).at_ hlt
            have hlt' : (k : Int) < (ps.length : Int) := by omega
            have hz1 := HS.out _ (List.getElem_mem hlt)
            have c0 := hn.c0
            have c1 := hn.c1
            have x0 := cell_keep hb HC.out
            have hx := cell_lt x0
            simp only at hx
            have HP := Lib.hid (rfl : ps[k] = ps[k])
            have EX : Hid (pdOkB hd z ps[k] = false → cfgOkB hd ps = false) := fun hp => by rw [EQ.out]; exact allOk_bad hlt (by rw [← HZL.out]; exact hp)
            have EY : Hid (pdOkB hd z ps[k] = true → OkTo hd ps (k + 1)) := fun hp => OkTo.succ HK hlt (by rw [← HZL.out]; exact hp)
            have EL := Lib.hid (lastAt_succ hlt)
            generalize ps[k] = p at *
            have HBW : Hid (∀ o, Below w.heap.size w (wr.alloc o)) := fun o => HB.out.trans ((hb.alloc hb.size o).mono HB.out.size)
            by_cases g1 : p.head < z
            · have G := Lib.hid g1
              go_wp2
              go_ret
              exact ⟨ret_bool (EX.out (by unfold pdOkB; have := G.out; rw [decide_eq_false (by omega : ¬ z ≤ p.head)]; simp)).symm, HBW.out _⟩
            · by_cases g2 : hd ≤ p.head
              · have G := Lib.hid g2
                go_wp2
                go_ret
                exact ⟨ret_bool (EX.out (by unfold pdOkB; have := G.out; rw [decide_eq_false (by omega : ¬ p.head < hd)]; simp)).symm, HBW.out _⟩
              · go_wp2_with fail
                refine (isBody_any p.body hd K kc _ (hn.k.keep (below_box _)) hz1).mono ?_
                rintro e w2 ⟨rfl, hb2⟩
                have hb' : Below W.heap.size W w2 := (hb.alloc hb.size _).trans (hb2.mono (by have := hb.size; simp; omega))
                have y0 : w2.cell? ⟨wr.heap.size, 0, none⟩ = some (.int .i64 p.head) := cell_keep hb2 (by simp)
                have hy := cell_lt y0
                simp only at hy
                have HBW2 := Lib.hid (HB.out.trans (hb'.mono HB.out.size))
                clear hb2 HBW hn c0 c1 x0
                cases q : bodyOkB hd p.body
                · have Q := Lib.hid q
                  go_wp2
                  go_ret
                  exact ⟨ret_bool (EX.out (by unfold pdOkB; rw [Q.out]; simp)).symm, HBW2.out⟩
                · have Q := Lib.hid q
                  have R : Hid (OkTo hd ps (k + 1)) := EY.out (by unfold pdOkB; rw [Q.out, decide_eq_true (by omega : 0 ≤ p.head), decide_eq_true (by omega : z ≤ p.head), decide_eq_true (by omega : p.head < hd)]; rfl)
                  go_wp2
                  go_roundw
                  case rel => exact ⟨k + 1, by omega, by go_num, ⟨_, rfl, EL.out.symm, by omega⟩, R, hb'⟩
                  case measure => simp [intOf]; omega
          · have hlt' : ¬ (k : Int) < (ps.length : Int) := by omega
            go_wp2
            go_ret
            have hkk : k = ps.length := by omega
            subst hkk
            exact ⟨ret_bool (by rw [EQ.out]; exact (allOk_iff.2 HK).symm), HB.out.trans (hb.mono HB.out.size)⟩

end Go.Proofs.Ytkgiklmdpdakbaa

