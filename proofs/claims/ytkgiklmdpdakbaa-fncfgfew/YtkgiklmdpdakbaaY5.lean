/- Rules that a draw owns. No condition. -/
import Derived.Test.YtkgiklmdpdakbaaY4
namespace Go.Proofs.Ytkgiklmdpdakbaa
open Go.RowKit
set_option linter.unusedVariables false

/-- A part whose blocks all lie from s on and ahead of e. -/
structure OPt (w : World) (s e : Nat) (lo hi : List Int) (kids : List Pt) (A B K : Option Addr) (ca cb kc : Nat) : Prop where
  a : w.ownsRow s 3 1 (.slice A lo.length ca) lo.length (ints lo)
  b : w.ownsRow s 3 1 (.slice B hi.length cb) hi.length (ints hi)
  ab : ∀ k, (Value.slice A lo.length ca).ownBlock = some k → (Value.slice B hi.length cb).ownBlock ≠ some k
  ks : KR w s (fun b => b < e ∧ (Value.slice A lo.length ca).ownBlock ≠ some b ∧ (Value.slice B hi.length cb).ownBlock ≠ some b) (.slice K kids.length kc) kids
  ea : ∀ k, (Value.slice A lo.length ca).ownBlock = some k → k < e
  eb : ∀ k, (Value.slice B hi.length cb).ownBlock = some k → k < e
  ek : ∀ k, (Value.slice K kids.length kc).ownBlock = some k → k < e
section
variable {w w' : World} {s e : Nat} {lo hi : List Int} {kids : List Pt} {A B K : Option Addr} {ca cb kc : Nat}
theorem TopP.opt (h : TopP w s lo hi kids A B K ca cb kc) (he : w.heap.size ≤ e) : OPt w s e lo hi kids A B K ca cb kc :=
  ⟨h.a, h.b, h.ab, h.ks.mono (Nat.le_refl _) fun b _ hl hx => ⟨by omega, hx⟩, fun k hk => by have := (h.a.lt k hk).2; omega, fun k hk => by have := (h.b.lt k hk).2; omega, fun k hk => by have := (h.ks.lt k hk).2; omega⟩
theorem OPt.top (h : OPt w s e lo hi kids A B K ca cb kc) : TopP w s lo hi kids A B K ca cb kc := ⟨h.a, h.b, h.ab, h.ks.mono (Nat.le_refl _) fun _ _ _ hx => hx.2⟩
theorem OPt.keep (h : OPt w s e lo hi kids A B K ca cb kc) (hb : ∀ b, s ≤ b → b < e → b < w.heap.size → w'.heap[b]? = w.heap[b]?) : OPt w' s e lo hi kids A B K ca cb kc :=
  ⟨own_same h.a fun b hk => hb b (h.a.lt b hk).1 (h.ea b hk) (h.a.lt b hk).2, own_same h.b fun b hk => hb b (h.b.lt b hk).1 (h.eb b hk) (h.b.lt b hk).2, h.ab,
    h.ks.keepX fun b h1 h2 h3 => hb b h1 (h3.elim (h.ek b) fun h => h.1) h2, h.ea, h.eb, h.ek⟩
end

theorem OPt.up {w : World} {s e e' : Nat} {lo hi : List Int} {kids : List Pt} {A B K : Option Addr} {ca cb kc : Nat} (h : OPt w s e lo hi kids A B K ca cb kc) (he : e ≤ e') : OPt w s e' lo hi kids A B K ca cb kc :=
  ⟨h.a, h.b, h.ab, h.ks.mono (Nat.le_refl _) fun b _ _ hx => ⟨by omega, hx.2⟩, fun k hk => by have := h.ea k hk; omega, fun k hk => by have := h.eb k hk; omega, fun k hk => by have := h.ek k hk; omega⟩
/-- A part that has kids alone. -/
theorem OPt.ofKids {w : World} {s n kc : Nat} {X : Nat → Prop} {K : Option Addr} {kids : List Pt} (h : KR w s X (.slice K n kc) kids) : OPt w s w.heap.size [] [] kids none none K 0 0 kc := (TopP.ofKids h).opt (Nat.le_refl _)

/-- Eight cells that are a rule. -/
def RuO (w : World) (s e : Nat) (cs : List Value) (r : Ru) : Prop :=
  ∃ (k : Int) (t : ByteArray) (lo hi : List Int) (kids : List Pt) (mn mx : Int) (A C K : Option Addr) (ca cc kc : Nat), cs = .string r.name :: c7 k t A lo.length ca C hi.length cc K kids.length kc mn mx ∧ r.p = .mk k t lo hi kids mn mx ∧ OPt w s e lo hi kids A C K ca cc kc
theorem RuO.keep {w w' : World} {s e : Nat} {cs : List Value} {r : Ru} (h : RuO w s e cs r) (hb : ∀ b, s ≤ b → b < e → b < w.heap.size → w'.heap[b]? = w.heap[b]?) : RuO w' s e cs r := by
  obtain ⟨k, t, lo, hi, kids, mn, mx, A, C, K, ca, cc, kc, h1, h2, h3⟩ := h
  exact ⟨k, t, lo, hi, kids, mn, mx, A, C, K, ca, cc, kc, h1, h2, h3.keep hb⟩
theorem RuO.ptC {w : World} {s e : Nat} {cs : List Value} {r : Ru} (h : RuO w s e cs r) : ∃ c, cs = .string r.name :: c ∧ PtC w (fun b => s ≤ b) c r.p := by
  obtain ⟨k, t, lo, hi, kids, mn, mx, A, C, K, ca, cc, kc, h1, h2, h3⟩ := h
  exact ⟨_, h1, h2 ▸ h3.top.ptC k t mn mx⟩

def eig (css : List Value) (i : Nat) : List Value := (css.drop (i * 8)).take 8
theorem eig_get {css : List Value} {i j : Nat} (hj : j < 8) : (eig css i)[j]? = css[i * 8 + j]? := by
  unfold eig
  rw [List.getElem?_take_of_lt hj, List.getElem?_drop]
theorem eig_app_left {css cs : List Value} {i : Nat} (h : i * 8 + 8 ≤ css.length) : eig (css ++ cs) i = eig css i := by
  unfold eig
  rw [List.drop_append_of_le_length (by omega), List.take_append_of_le_length (by simp; omega)]
theorem eig_app_right {css cs : List Value} {n : Nat} (h : css.length = n * 8) (hc : cs.length = 8) : eig (css ++ cs) n = cs := by
  unfold eig
  rw [List.drop_append, List.drop_eq_nil_of_le (by omega), List.nil_append, show n * 8 - css.length = 0 by omega, List.drop_zero, List.take_of_length_le (by omega)]

/-- Rules in a row that is owned; each rule's blocks lie apart from the others' and from the row; all of it lies ahead of T. -/
def GR (w : World) (base T : Nat) (v : Value) (rs : List Ru) : Prop :=
  ∃ (xs : List Value) (sf ef : Nat → Nat), w.ownsRow base 90 8 v rs.length xs ∧ (∀ i (h : i < rs.length), RuO w (sf i) (ef i) (eig xs i) rs[i]) ∧
    (∀ i, i < rs.length → base ≤ sf i ∧ ef i ≤ T ∧ ∀ b, v.ownBlock = some b → b < sf i ∨ ef i ≤ b) ∧ (∀ i j, i < rs.length → j < rs.length → i ≠ j → ef i ≤ sf j ∨ ef j ≤ sf i) ∧ (∀ b, v.ownBlock = some b → b < T) ∧ T ≤ w.heap.size
theorem GR.nil (w : World) (base T : Nat) (hT : T ≤ w.heap.size) : GR w base T (.slice none 0 0) [] := ⟨[], fun _ => 0, fun _ => 0, by simpa using World.ownsRow_nil w base 90 8, fun i h => absurd h (by simp), fun i h => absurd h (by simp), fun i j h => absurd h (by simp), fun b h => (none_block h).elim, hT⟩
theorem GR.form {w : World} {base T : Nat} {v : Value} {rs : List Ru} (h : GR w base T v rs) : ∃ a c, v = .slice a rs.length c := by
  obtain ⟨xs, sf, ef, h, _⟩ := h; exact own_form h
theorem GR.lt {w : World} {base T : Nat} {v : Value} {rs : List Ru} (h : GR w base T v rs) : ∀ k, v.ownBlock = some k → base ≤ k ∧ k < T := by
  obtain ⟨xs, sf, ef, h, _, _, _, h5, _⟩ := h; exact fun k hk => ⟨(h.lt k hk).1, h5 k hk⟩
theorem GR.top {w : World} {base T : Nat} {v : Value} {rs : List Ru} (h : GR w base T v rs) : T ≤ w.heap.size := by
  obtain ⟨xs, sf, ef, h, _, _, _, _, h6⟩ := h; exact h6
theorem GR.keep {w w' : World} {base T : Nat} {v : Value} {rs : List Ru} (h : GR w base T v rs) (hs : w.heap.size ≤ w'.heap.size) (hb : ∀ b, base ≤ b → b < T → w'.heap[b]? = w.heap[b]?) : GR w' base T v rs := by
  obtain ⟨xs, sf, ef, h1, h2, h3, h4, h5, h6⟩ := h
  exact ⟨xs, sf, ef, own_same h1 fun b hk => hb b (h1.lt b hk).1 (h5 b hk), fun i hi => (h2 i hi).keep fun b q1 q2 q3 => hb b (by have := (h3 i hi).1; omega) (by have := (h3 i hi).2.1; omega), h3, h4, h5, by omega⟩
theorem GR.low {w : World} {base base' T : Nat} {v : Value} {rs : List Ru} (h : GR w base T v rs) (hb : base' ≤ base) : GR w base' T v rs := by
  obtain ⟨xs, sf, ef, h1, h2, h3, h4⟩ := h
  exact ⟨xs, sf, ef, own_base h1 hb, h2, fun i hi => ⟨by have := (h3 i hi).1; omega, (h3 i hi).2⟩, h4⟩
/-- What a rule that is put behind needs. -/
structure GRow (w : World) (base T : Nat) (v : Value) (rs : List Ru) (xs : List Value) (sf ef : Nat → Nat) : Prop where
  h1 : w.ownsRow base 90 8 v rs.length xs
  h2 : ∀ i (h : i < rs.length), RuO w (sf i) (ef i) (eig xs i) rs[i]
  h3 : ∀ i, i < rs.length → base ≤ sf i ∧ ef i ≤ T ∧ ∀ b, v.ownBlock = some b → b < sf i ∨ ef i ≤ b
  h4 : ∀ i j, i < rs.length → j < rs.length → i ≠ j → ef i ≤ sf j ∨ ef j ≤ sf i
  h5 : ∀ b, v.ownBlock = some b → b < T
  h6 : T ≤ w.heap.size
theorem GR.row {w : World} {base T : Nat} {v : Value} {rs : List Ru} (h : GR w base T v rs) : ∃ xs sf ef, GRow w base T v rs xs sf ef := by
  obtain ⟨xs, sf, ef, h1, h2, h3, h4, h5, h6⟩ := h
  exact ⟨xs, sf, ef, h1, h2, h3, h4, h5, h6⟩
theorem GRow.keep {w w' : World} {base T : Nat} {v : Value} {rs : List Ru} {xs : List Value} {sf ef : Nat → Nat} (h : GRow w base T v rs xs sf ef) (hs : w.heap.size ≤ w'.heap.size) (hb : ∀ b, base ≤ b → b < T → w'.heap[b]? = w.heap[b]?) : GRow w' base T v rs xs sf ef := by
  obtain ⟨h1, h2, h3, h4, h5, h6⟩ := h
  exact ⟨own_same h1 fun b hk => hb b (h1.lt b hk).1 (h5 b hk), fun i hi => (h2 i hi).keep fun b q1 q2 q3 => hb b (by have := (h3 i hi).1; omega) (by have := (h3 i hi).2.1; omega), h3, h4, h5, by omega⟩
/-- A rule is put behind. -/
theorem GRow.app {w w' : World} {base T : Nat} {v v' : Value} {rs : List Ru} {xs cs : List Value} {sf ef : Nat → Nat} {r : Ru} {s e : Nat} (h : GRow w base T v rs xs sf ef)
    (hr : RuO w s e cs r) (hs : base ≤ s) (hT : T ≤ s) (he : e ≤ w.heap.size)
    (ho : w'.ownsRow base 90 8 v' (rs.length + 1) (xs ++ cs)) (hg : w.grownBy w' v.ownBlock) (hat : v'.ownBlock = v.ownBlock ∨ v'.ownBlock = some w.heap.size) : GR w' base w'.heap.size v' (rs ++ [r]) := by
  obtain ⟨h1, h2, h3, h4, h5, h6⟩ := h
  have hl := h1.1
  have hv : ∀ b, v.ownBlock = some b → b < s ∨ e ≤ b := fun b hb => .inl (by have := h5 b hb; omega)
  have hcl : cs.length = 8 := by
    obtain ⟨k, t, lo, hi, kids, mn, mx, A, C, K, ca, cc, kc, q1, _⟩ := hr
    rw [q1]; rfl
  have keep : ∀ {s e : Nat} {c : List Value} {r : Ru}, (∀ b, v.ownBlock = some b → b < s ∨ e ≤ b) → RuO w s e c r → RuO w' s e c r := fun hv h => h.keep fun b q1 q2 q3 => hg.block b q3 fun e => by have := hv b e.symm; omega
  have hsz := hg.size
  refine ⟨xs ++ cs, fun i => if i < rs.length then sf i else s, fun i => if i < rs.length then ef i else e, by simpa using ho, fun i hi => ?_, fun i hi => ?_, fun i j hi hj hij => ?_, fun b hb => (ho.lt b hb).2, Nat.le_refl _⟩
  · by_cases hlt : i < rs.length
    · simp only [if_pos hlt]
      rw [eig_app_left (by rw [hl]; omega), List.getElem_append_left hlt]
      exact keep (h3 i hlt).2.2 (h2 i hlt)
    · have e1 : i = rs.length := by simp at hi; omega
      subst e1
      simp only [if_neg hlt]
      rw [eig_app_right hl hcl, List.getElem_append_right (by omega)]
      simpa using keep hv hr
  · have hbk : ∀ b, v'.ownBlock = some b → v.ownBlock = some b ∨ b = w.heap.size := fun b hb => by
      rcases hat with q | q
      · exact .inl (q ▸ hb)
      · rw [q] at hb; injection hb with hb; exact .inr hb.symm
    by_cases hlt : i < rs.length
    · simp only [if_pos hlt]
      have h := h3 i hlt
      exact ⟨h.1, by omega, fun b hb => (hbk b hb).elim (h.2.2 b) fun e => by omega⟩
    · simp only [if_neg hlt]
      exact ⟨hs, by omega, fun b hb => (hbk b hb).elim (hv b) fun e => by omega⟩
  · simp only [List.length_append, List.length_cons, List.length_nil] at hi hj
    by_cases a1 : i < rs.length <;> by_cases a2 : j < rs.length
    · simp only [if_pos a1, if_pos a2]; exact h4 i j a1 a2 hij
    · simp only [if_pos a1, if_neg a2]; exact .inl (by have := (h3 i a1).2.1; omega)
    · simp only [if_neg a1, if_pos a2]; exact .inr (by have := (h3 j a2).2.1; omega)
    · omega
/-- Rules as the laws on grammars want them. -/
theorem GR.rus {w : World} {base T : Nat} {a : Option Addr} {n c : Nat} {rs : List Ru} (h : GR w base T (.slice a n c) rs) : Rus w 0 a rs := by
  obtain ⟨xs, sf, ef, h1, h2, h3, h4, _⟩ := h
  by_cases h0 : rs = []
  · exact .inl h0
  · obtain ⟨g, cap, e, hge, _⟩ := own_some h1 (List.length_pos_iff.2 h0)
    injection e with e1 e2 e3
    subst e1 e2 e3
    refine .inr ⟨g, 0, rfl, Nat.zero_le _, fun i hi => ?_⟩
    obtain ⟨c, hc, hp⟩ := (h2 i hi).ptC
    have hl := h1.1
    have hlen := hp.len
    have get : ∀ j u, (eig xs i)[j]? = some u → w.cell? ⟨g, 0 + i * 8 + j, none⟩ = some u := fun j u hu => by
      have hj : j < 8 := by
        have := (List.getElem?_eq_some_iff.1 hu).1
        rw [hc] at this
        simp [hlen] at this
        omega
      rw [eig_get hj] at hu
      rw [Nat.zero_add]
      exact own_cellN h1 _ u hu
    rw [hc] at get
    refine ⟨get 0 _ rfl, hp.ptAt fun j u hu => ?_⟩
    have := get (j + 1) u (by simpa using hu)
    rwa [show 0 + i * 8 + 1 + j = 0 + i * 8 + (j + 1) by omega]

end Go.Proofs.Ytkgiklmdpdakbaa

