/- Parts in memory that a draw owns: the cells of a part, and which blocks it reaches. No condition. -/
import Derived.Test.YtjfohdalpjoaeaaDoorD4
namespace Go.Proofs.YtjfohdalpjoaeaaDoor
open Go.RowKit
set_option linter.unusedVariables false

/-- The seven cells of a part. -/
def c7 (k : Int) (t : ByteArray) (A : Option Addr) (la ca : Nat) (B : Option Addr) (lb cb : Nat) (K : Option Addr) (lk kc : Nat) (mn mx : Int) : List Value :=
  [.int .i64 k, .string t, .slice A la ca, .slice B lb cb, .slice K lk kc, .int .i64 mn, .int .i64 mx]

/-- Cells that are a part; all that it reaches lies in blocks of F. -/
inductive PtC (w : World) (F : Nat → Prop) : List Value → Pt → Prop
  | mk (k : Int) (t : ByteArray) (lo hi : List Int) (kids : List Pt) (mn mx : Int) (A B K : Option Addr) (ca cb kc kb ko : Nat) (css : Nat → List Value)
    (hA : Row w A (ints lo)) (hB : Row w B (ints hi)) (lA : lo ≠ [] → ∀ x, A = some x → F x.block) (lB : hi ≠ [] → ∀ x, B = some x → F x.block)
    (hK : kids ≠ [] → K = some ⟨kb, ko, none⟩ ∧ F kb) (hl : ∀ i, i < kids.length → (css i).length = 7)
    (hc : ∀ i, i < kids.length → ∀ j u, (css i)[j]? = some u → w.cell? ⟨kb, ko + i * 7 + j, none⟩ = some u)
    (hk : ∀ i (h : i < kids.length), PtC w F (css i) kids[i]) : PtC w F (c7 k t A lo.length ca B hi.length cb K kids.length kc mn mx) (.mk k t lo hi kids mn mx)

theorem row_block {w : World} {A : Option Addr} {xs : List Value} (h : Row w A xs) (h0 : xs ≠ []) : ∃ x, A = some x ∧ x.block < w.heap.size := by
  rcases h with h | ⟨b, off, ha, hc⟩
  · exact (h0 h).elim
  · exact ⟨_, ha, cell_lt (hc 0 (by cases xs with | nil => exact (h0 rfl).elim | cons _ _ => simp))⟩
theorem ints_ne {lo : List Int} (h : lo ≠ []) : ints lo ≠ [] := by simpa [ints] using h
theorem row_same {w w' : World} {F : Nat → Prop} (hF : ∀ b, F b → b < w.heap.size → w'.heap[b]? = w.heap[b]?) {A : Option Addr} {lo : List Int} (h : Row w A (ints lo)) (lA : lo ≠ [] → ∀ x, A = some x → F x.block) : Row w' A (ints lo) := by
  by_cases h0 : lo = []
  · subst h0; exact .inl rfl
  · rcases h with h | ⟨b, off, ha, hc⟩
    · exact (ints_ne h0 h).elim
    · refine .inr ⟨b, off, ha, fun i hi => ?_⟩
      have hb := lA h0 _ ha
      rw [World.cell?_of_block (w := w) (hF b hb (cell_lt (hc i hi)))]
      exact hc i hi

theorem PtC.mv {w w' : World} {F : Nat → Prop} (hF : ∀ b, F b → b < w.heap.size → w'.heap[b]? = w.heap[b]?) {cs : List Value} {p : Pt} (h : PtC w F cs p) : PtC w' F cs p := by
  induction h with
  | mk k t lo hi kids mn mx A B K ca cb kc kb ko css hA hB lA lB hK hl hc hk ih =>
    refine .mk k t lo hi kids mn mx A B K ca cb kc kb ko css (row_same hF hA lA) (row_same hF hB lB) lA lB hK hl (fun i hi j u hu => ?_) ih
    have h1 := hc i hi j u hu
    have hb := (hK (fun e => by subst e; simp at hi)).2
    rw [World.cell?_of_block (w := w) (hF kb hb (cell_lt h1))]
    exact h1
theorem PtC.mono {w : World} {F F' : Nat → Prop} (hF : ∀ b, F b → b < w.heap.size → F' b) {cs : List Value} {p : Pt} (h : PtC w F cs p) : PtC w F' cs p := by
  induction h with
  | mk k t lo hi kids mn mx A B K ca cb kc kb ko css hA hB lA lB hK hl hc hk ih =>
    refine .mk k t lo hi kids mn mx A B K ca cb kc kb ko css hA hB (fun h0 x hx => ?_) (fun h0 x hx => ?_) (fun h0 => ⟨(hK h0).1, ?_⟩) hl hc ih
    · obtain ⟨y, hy, hlt⟩ := row_block hA (ints_ne h0)
      rw [hx] at hy; injection hy with hy; subst hy
      exact hF _ (lA h0 x hx) hlt
    · obtain ⟨y, hy, hlt⟩ := row_block hB (ints_ne h0)
      rw [hx] at hy; injection hy with hy; subst hy
      exact hF _ (lB h0 x hx) hlt
    · have hpos : 0 < kids.length := List.length_pos_iff.2 h0
      have hl0 := hl 0 hpos
      have h1 := hc 0 hpos 0 ((css 0)[0]'(by omega)) (List.getElem?_eq_getElem _)
      exact hF _ (hK h0).2 (cell_lt h1)
theorem PtC.mv' {w w' : World} {F F' : Nat → Prop} (hF : ∀ b, F b → b < w.heap.size → w'.heap[b]? = w.heap[b]? ∧ F' b) {cs : List Value} {p : Pt} (h : PtC w F cs p) : PtC w' F' cs p :=
  (h.mono (F' := fun b => F b ∧ F' b) fun b hb hl => ⟨hb, (hF b hb hl).2⟩).mv (fun b hb hl => (hF b hb.1 hl).1) |>.mono fun b hb _ => hb.2
theorem PtC.len {w : World} {F : Nat → Prop} {cs : List Value} {p : Pt} (h : PtC w F cs p) : cs.length = 7 := by
  cases h; rfl
theorem PtC.ones {w : World} {F : Nat → Prop} {cs : List Value} {p : Pt} (h : PtC w F cs p) : ∀ u ∈ cs, u.oneCell' = true := by
  cases h
  intro u hu
  simp [c7] at hu
  rcases hu with rfl | rfl | rfl | rfl | rfl | rfl | rfl <;> rfl

/-- A part as the laws on grammars want it. -/
theorem PtC.ptAt {w : World} {F : Nat → Prop} {cs : List Value} {p : Pt} (h : PtC w F cs p) : ∀ {b off : Nat}, (∀ j u, cs[j]? = some u → w.cell? ⟨b, off + j, none⟩ = some u) → PtAt w 0 b off p := by
  induction h with
  | mk k t lo hi kids mn mx A B K ca cb kc kb ko css hA hB lA lB hK hl hc hk ih =>
    intro b off hcell
    exact .mk b off k t lo hi kids mn mx A B K ca cb kc kb ko (hcell 0 _ rfl) (hcell 1 _ rfl) (hcell 2 _ rfl) (hcell 3 _ rfl) (hcell 4 _ rfl) (hcell 5 _ rfl) (hcell 6 _ rfl) hA hB (fun h0 => (hK h0).1)
      (fun i hi => ih i hi fun j u hu => hc i hi j u hu) (Nat.zero_le _) (fun _ _ => Nat.zero_le _) (fun _ _ => Nat.zero_le _)

/-- The i-th seven of a row of cells. -/
def sev (css : List Value) (i : Nat) : List Value := (css.drop (i * 7)).take 7
theorem sev_get {css : List Value} {i j : Nat} (hj : j < 7) : (sev css i)[j]? = css[i * 7 + j]? := by
  unfold sev
  rw [List.getElem?_take_of_lt hj, List.getElem?_drop]
theorem sev_app_left {css cs : List Value} {i : Nat} (h : i * 7 + 7 ≤ css.length) : sev (css ++ cs) i = sev css i := by
  unfold sev
  rw [List.drop_append_of_le_length (by omega), List.take_append_of_le_length (by simp; omega)]
theorem sev_app_right {css cs : List Value} {n i : Nat} (h : css.length = n * 7) (hi : n ≤ i) : sev (css ++ cs) i = sev cs (i - n) := by
  unfold sev
  rw [List.drop_append, List.drop_eq_nil_of_le (by omega), List.nil_append, show i * 7 - css.length = (i - n) * 7 by omega]
theorem sev_len {css : List Value} {i : Nat} (h : i * 7 + 7 ≤ css.length) : (sev css i).length = 7 := by
  unfold sev; simp; omega
theorem sev_one {cs : List Value} (h : cs.length = 7) : sev cs 0 = cs := by
  unfold sev; rw [Nat.zero_mul, List.drop_zero, List.take_of_length_le (by omega)]

/-- A row of parts that the call owns; what they reach lies from block s on, and not in the row itself. -/
def KR (w : World) (s : Nat) (X : Nat → Prop) (v : Value) (kids : List Pt) : Prop :=
  ∃ css, w.ownsRow s 31 7 v kids.length css ∧ ∀ i (h : i < kids.length), PtC w (fun b => s ≤ b ∧ v.ownBlock ≠ some b ∧ X b) (sev css i) kids[i]

theorem KR.nil (w : World) (s : Nat) (X : Nat → Prop) : KR w s X (.slice none 0 0) [] := ⟨[], by simpa using World.ownsRow_nil w s 31 7, fun i h => absurd h (by simp)⟩
theorem KR.form {w : World} {s : Nat} {X : Nat → Prop} {v : Value} {kids : List Pt} (h : KR w s X v kids) : ∃ K kc, v = .slice K kids.length kc := by
  obtain ⟨css, h, _⟩ := h; exact own_form h
theorem KR.keep {w w' : World} {s : Nat} {X : Nat → Prop} {v : Value} {kids : List Pt} (h : KR w s X v kids) (hb : ∀ b, s ≤ b → b < w.heap.size → w'.heap[b]? = w.heap[b]?) : KR w' s X v kids := by
  obtain ⟨css, h, hk⟩ := h
  exact ⟨css, own_same h fun b hb' => hb b (h.lt b hb').1 (h.lt b hb').2, fun i hi => (hk i hi).mv fun b hb' hl => hb b hb'.1 hl⟩
theorem KR.lt {w : World} {s : Nat} {X : Nat → Prop} {v : Value} {kids : List Pt} (h : KR w s X v kids) : ∀ k, v.ownBlock = some k → s ≤ k ∧ k < w.heap.size := by
  obtain ⟨css, h, hk⟩ := h; exact h.lt
/-- Parts are put behind. -/
theorem KR.app {w w' : World} {s : Nat} {X : Nat → Prop} {v v' : Value} {kids ps : List Pt} {css cs : List Value} (hr : w.ownsRow s 31 7 v kids.length css) (hk : ∀ i (h : i < kids.length), PtC w (fun b => s ≤ b ∧ v.ownBlock ≠ some b ∧ X b) (sev css i) kids[i])
    (hp : ∀ i (h : i < ps.length), PtC w (fun b => s ≤ b ∧ v.ownBlock ≠ some b ∧ X b) (sev cs i) ps[i]) (ho : w'.ownsRow s 31 7 v' (kids.length + ps.length) (css ++ cs)) (hg : w.grownBy w' v.ownBlock) (hv : v'.ownBlock = v.ownBlock ∨ v'.ownBlock = some w.heap.size) :
    KR w' s X v' (kids ++ ps) := by
  have mv : ∀ {c : List Value} {p : Pt}, PtC w (fun b => s ≤ b ∧ v.ownBlock ≠ some b ∧ X b) c p → PtC w' (fun b => s ≤ b ∧ v'.ownBlock ≠ some b ∧ X b) c p := fun h => h.mv' fun b hb hl =>
    ⟨hg.block b hl (fun e => hb.2.1 e.symm), hb.1, by rcases hv with e | e <;> rw [e]; exact hb.2.1; (intro e2; injection e2 with e2; omega), hb.2.2⟩
  have hl := hr.1
  refine ⟨css ++ cs, by rw [List.length_append]; exact ho, fun i hi => ?_⟩
  by_cases hlt : i < kids.length
  · rw [sev_app_left (by rw [hl]; omega), List.getElem_append_left hlt]
    exact mv (hk i hlt)
  · rw [sev_app_right hl (by omega), List.getElem_append_right (by omega)]
    exact mv (hp _ _)

/-- A part whose own rows the call owns, too. -/
structure TopP (w : World) (s : Nat) (lo hi : List Int) (kids : List Pt) (A B K : Option Addr) (ca cb kc : Nat) : Prop where
  a : w.ownsRow s 3 1 (.slice A lo.length ca) lo.length (ints lo)
  b : w.ownsRow s 3 1 (.slice B hi.length cb) hi.length (ints hi)
  ab : ∀ k, (Value.slice A lo.length ca).ownBlock = some k → (Value.slice B hi.length cb).ownBlock ≠ some k
  ks : KR w s (fun b => (Value.slice A lo.length ca).ownBlock ≠ some b ∧ (Value.slice B hi.length cb).ownBlock ≠ some b) (.slice K kids.length kc) kids

section
variable {w w' : World} {s : Nat} {lo hi : List Int} {kids : List Pt} {A B K : Option Addr} {ca cb kc : Nat}
theorem TopP.keep (h : TopP w s lo hi kids A B K ca cb kc) (hb : ∀ b, s ≤ b → b < w.heap.size → w'.heap[b]? = w.heap[b]?) : TopP w' s lo hi kids A B K ca cb kc :=
  ⟨own_same h.a fun b hb' => hb b (h.a.lt b hb').1 (h.a.lt b hb').2, own_same h.b fun b hb' => hb b (h.b.lt b hb').1 (h.b.lt b hb').2, h.ab, h.ks.keep hb⟩
theorem own_ints_nil (w : World) (s : Nat) : w.ownsRow s 3 1 (.slice none ([] : List Int).length 0) ([] : List Int).length (ints []) := by simpa [ints] using World.ownsRow_nil w s 3 1
theorem none_block {k n c : Nat} : (Value.slice none n c).ownBlock ≠ some k := by simp [Value.ownBlock]
theorem TopP.bare (w : World) (s : Nat) : TopP w s [] [] [] none none none 0 0 0 :=
  ⟨own_ints_nil w s, own_ints_nil w s, fun k h => (none_block h).elim, KR.nil w s _⟩
theorem KR.mono {X X' : Nat → Prop} {v : Value} {s' : Nat} (h : KR w s X v kids) (hs : s' ≤ s) (hX : ∀ b, s ≤ b → b < w.heap.size → X b → X' b) : KR w s' X' v kids := by
  obtain ⟨css, h, hk⟩ := h
  exact ⟨css, own_base h hs, fun i hi => (hk i hi).mono fun b hb hl => ⟨by omega, hb.2.1, hX b hb.1 hl hb.2.2⟩⟩
theorem TopP.low {s' : Nat} (h : TopP w s lo hi kids A B K ca cb kc) (hs : s' ≤ s) : TopP w s' lo hi kids A B K ca cb kc :=
  ⟨own_base h.a hs, own_base h.b hs, h.ab, h.ks.mono hs fun _ _ _ h => h⟩
/-- Kids of a part that has nothing else. -/
theorem TopP.ofKids {X : Nat → Prop} {n : Nat} (h : KR w s X (.slice K n kc) kids) : TopP w s [] [] kids none none K 0 0 kc :=
  ⟨own_ints_nil w s, own_ints_nil w s, fun k h => (none_block h).elim, by
    obtain ⟨K', kc', e⟩ := h.form
    injection e with _ e2
    subst e2
    exact h.mono (Nat.le_refl _) fun b _ _ _ => ⟨none_block, none_block⟩⟩
/-- A part becomes a kid. -/
theorem TopP.ptC (h : TopP w s lo hi kids A B K ca cb kc) (k : Int) (t : ByteArray) (mn mx : Int) : PtC w (fun b => s ≤ b) (c7 k t A lo.length ca B hi.length cb K kids.length kc mn mx) (.mk k t lo hi kids mn mx) := by
  obtain ⟨css, hr, hk⟩ := h.ks
  have rowBlock : ∀ {A : Option Addr} {n c : Nat} {xs : List Value}, w.ownsRow s 3 1 (.slice A n c) n xs → ∀ x, A = some x → s ≤ x.block := fun h x hx => by
    subst hx; exact (h.lt _ rfl).1
  by_cases h0 : kids = []
  · subst h0
    exact .mk k t lo hi [] mn mx A B K ca cb kc 0 0 (fun _ => []) (own_rowN h.a) (own_rowN h.b) (fun _ => rowBlock h.a) (fun _ => rowBlock h.b) (fun e => (e rfl).elim) (fun i hi => absurd hi (by simp)) (fun i hi => absurd hi (by simp)) (fun i hi => absurd hi (by simp))
  · obtain ⟨g, cap, e, hge, _⟩ := own_some hr (List.length_pos_iff.2 h0)
    injection e with e1 e2 e3
    subst e1 e3
    have hl := hr.1
    refine .mk k t lo hi kids mn mx A B _ ca cb kc g 0 (sev css) (own_rowN h.a) (own_rowN h.b) (fun _ => rowBlock h.a) (fun _ => rowBlock h.b) (fun _ => ⟨rfl, hge⟩) (fun i hi => sev_len (by rw [hl]; omega)) (fun i hi j u hu => ?_) fun i hi => (hk i hi).mono fun b hb _ => hb.1
    have hj : j < 7 := by
      have := (List.getElem?_eq_some_iff.1 hu).1
      rw [sev_len (by rw [hl]; omega)] at this
      exact this
    rw [sev_get hj] at hu
    rw [Nat.zero_add]
    exact own_cellN hr _ u hu
end

end Go.Proofs.YtjfohdalpjoaeaaDoor
