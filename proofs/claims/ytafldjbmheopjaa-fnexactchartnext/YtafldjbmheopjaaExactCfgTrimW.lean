/- Productions of one own stay while others are written. -/
import Derived.Test.YtafldjbmheopjaaM13
namespace Go.Proofs.Ytafldjbmheopjaa
open Go.RowKit
set_option linter.unusedVariables false

theorem OG.below {w w' : World} {base cap B : Nat} {A : Option Addr} {xs : List Pv} (h : OG w base A cap xs) (hb : Below B w w') (hB : ∀ k, OF A xs k → k < B) : OG w' base A cap xs := by
  have key : ∀ {e : TypeId} {size : Nat} {K : Option Addr} {n c : Nat} {vs : List Value}, w.ownsRow base e size (.slice K n c) n vs → (∀ k, OB K k → k < B) → w'.ownsRow base e size (.slice K n c) n vs := by
    intro e size K n c vs h hB
    rcases h with ⟨hl, ⟨h0, h1⟩ | ⟨g, cap, cur, h0, h1, h2, h3⟩⟩
    · exact ⟨hl, .inl ⟨h0, h1⟩⟩
    · refine ⟨hl, .inr ⟨g, cap, cur, h0, h1, (hb.block g (hB g ?_)).trans h2, h3⟩⟩
      injection h0 with h0
      subst h0; rfl
  exact ⟨key h.o (fun k hk => hB k (.inl hk)), fun i hi => key (h.d i hi) (fun k hk => hB k (.inr ⟨_, List.getElem_mem hi, hk⟩)), h.ap⟩
theorem Fr.og {w w' : World} {F F' : Nat → Prop} {base cap : Nat} {A : Option Addr} {xs : List Pv} (hf : Fr F F' w w') (h : OG w base A cap xs) (hF : ∀ k, OF A xs k → ¬ F k) : OG w' base A cap xs := by
  refine ⟨hf.ownsRow h.o (fun b hb => hF b (.inl ?_)), fun i hi => hf.ownsRow (h.d i hi) (fun b hb => hF b (.inr ⟨_, List.getElem_mem hi, ?_⟩)), h.ap⟩
  · unfold OB
    cases A with
    | none => cases hb
    | some a => exact hb
  · unfold OB
    unfold Pv.sl at hb
    cases hk : xs[i].K with
    | none => rw [hk] at hb; cases hb
    | some a => rw [hk] at hb; exact hb

theorem pv_small {xs : List Pv} (h : Small (xs.map Pv.p)) : ∀ x ∈ xs, x.p.body.length ≤ 1048576 := fun x hx => h x.p (List.mem_map_of_mem hx)

end Go.Proofs.Ytafldjbmheopjaa
