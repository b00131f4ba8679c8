/- The specification's walks over values: l31Size, l31Deep, l31Write, JsonOk, JsonWrite. -/
import Derived.Test.YtkhcappjhefkjaaGreatDoorJ4
namespace Go.Proofs.YtkhcappjhefkjaaGreatDoor
open Go.RowKit
set_option linter.unusedVariables false

/-- The cells of a value in a box. -/
def jc (k : Int) (f : Bool) (t : ByteArray) (A : Option Addr) (ln ca : Nat) (K : Option Addr) (lk kc : Nat) : Array Value := #[.int .i64 k, .bool f, .string t, .slice A ln ca, .slice K lk kc]

/-- l31Size, of values that are at most so high. -/
def SiP (n : Nat) : Prop := ∀ (k : Int) (f : Bool) (t : ByteArray) (ns : List ByteArray) (kids : List Js) (A K : Option Addr) (ca kc B0 : Nat) (w : World), htJ kids + 1 ≤ n → Jss w B0 K kids → kids.length ≤ 40 → (∀ p ∈ kids, NarJ p) →
  Calls Tryz.prog 66 #[.agg #[.int .i64 k, .bool f, .string t, .slice A ns.length ca, .slice K kids.length kc]] w (fun e w' => e = .returned (.int .i64 (nodesJ kids + 1 : Nat)) ∧ Below w.heap.size w w')

set_option maxRecDepth 100000 in
set_option maxHeartbeats 1000000 in
theorem sizeS {n : Nat} (IH : SiP n) (hn8 : n ≤ 7) : SiP (n + 1) := by
  intro k f t ns kids A K ca kc B0 w hh hk hm hn
  have hbx : Below w.heap.size w (w.alloc (.cells #[.int .i64 k, .bool f, .string t, .slice A ns.length ca, .slice K kids.length kc] 42)) := below_box _
  have HK := Lib.hid (hk.keep hbx)
  have k4 : (w.alloc (.cells #[.int .i64 k, .bool f, .string t, .slice A ns.length ca, .slice K kids.length kc] 42)).cell? ⟨w.heap.size, 4, none⟩ = some (.slice K kids.length kc) := by simp
  have hbig : nodesJ kids + 1 ≤ 7984925229121 := by
    have h1 := nodes_boundJ (n + 1) (.mk k f t ns kids) (by rw [htJ_mk]; omega) (.mk k f t ns kids hm hn)
    rw [nodesJ_mk] at h1
    have h2 : 41 ^ (n + 1) ≤ 41 ^ 8 := Nat.pow_le_pow_right (by omega) (by omega)
    omega
  have HI := Lib.hid IH
  have HN := Lib.hid hn
  have HH := Lib.hid hh
  clear hk IH hn hh
  go_enter Tryz.func66, Tryz.ntmps66
  go_wp2
  generalize w.alloc (.cells #[.int .i64 k, .bool f, .string t, .slice A ns.length ca, .slice K kids.length kc] 42) = W0 at *
  have HK4 := Lib.hid k4
  have HBX := Lib.hid hbx
  clear k4 hbx
  go_loopw [3, 4] (fun q i wr => ∃ j : Nat, j ≤ kids.length ∧ i = .int .i64 j ∧ q = .int .i64 (nodesJ (kids.take j) + 1 : Nat) ∧ Below W0.heap.size W0 wr) (fun _ i _ => kids.length - (intOf i).toNat)
  case atStart => exact ⟨0, Nat.zero_le _, rfl, by simp [nodesJ], Below.refl _ _⟩
  case round =>
    obtain ⟨j, hj, rfl, rfl, hb⟩ := hrel
    have k4 := cell_keep hb HK4.out
    have kl := cell_lt k4
    simp only at kl
    by_cases hlt : j < kids.length
    · have hlt' : (j : Int) < (kids.length : Int) := by omega
      obtain ⟨b, off, rfl, hp⟩ := (HK.out.keep hb).at_ hlt
      have hmem := List.getElem_mem hlt
      have hnar := HN.out _ hmem
      have hht := htJ_mem hmem
      have HT := Lib.hid (nodesJ_take hlt)
      have hle := nodesJ_le kids (j + 1)
      rw [nodesJ_take hlt] at hle
      clear hmem
      generalize kids[j] = p at *
      obtain ⟨pk, pf, pt, pns, pkids⟩ := p
      rw [nodesJ_mk] at hle HT
      rw [htJ_mk] at hht
      obtain ⟨PA, PK, pa, pc, hc, hv⟩ := hp.open_
      obtain ⟨c0, c1, c2, c3, c4⟩ := hc
      cases hnar with
      | mk _ _ _ _ _ q1 q2 =>
      have HC := Lib.hid (HI.out pk pf pt pns pkids PA PK pa pc B0 wr (by have := HH.out; omega) hv.k q1 q2)
      generalize nodesJ (kids.take j) = x at *
      obtain ⟨y, hy⟩ : ∃ y, nodesJ pkids + 1 = y := ⟨_, rfl⟩
      rw [hy] at HC HT hle
      clear hp hv q1 q2 hht hy
      have hw1 : IntKind.i64.wrap (((x + 1 : Nat) : Int) + ((y : Nat) : Int)) = ((x + 1 : Nat) : Int) + ((y : Nat) : Int) := IntWalk.i64_in _ (by omega)
      obtain ⟨x1, hx1⟩ : ∃ x1, x + 1 = x1 := ⟨_, rfl⟩
      rw [hx1] at hw1 ⊢
      have HX1 := Lib.hid hx1
      clear hx1
      go_wp2_with fail
      refine HC.out.mono ?_
      rintro e w2 ⟨rfl, hb2⟩
      have hb' : Below W0.heap.size W0 w2 := hb.trans (hb2.mono hb.size)
      clear hb hb2 HC c0 c1 c2 c3 c4 k4
      go_wp2
      go_roundw
      case rel => exact ⟨j + 1, by omega, by go_num, by rw [HT.out]; have := HX1.out; congr 1; omega, hb'⟩
      case measure => simp [intOf]; omega
    · have hlt' : ¬ (j : Int) < (kids.length : Int) := by omega
      obtain rfl : j = kids.length := by omega
      rw [List.take_length]
      go_wp2
      go_ret
      exact ⟨rfl, HBX.out.trans (hb.mono HBX.out.size)⟩

theorem size_all : ∀ n, n ≤ 8 → SiP n
  | 0, _ => by intro k f t ns kids A K ca kc B0 w hh; omega
  | n + 1, h => sizeS (size_all n (by omega)) (by omega)

/-- What of a value is asked ahead of its kids: no field of another kind. -/
def BareJ (k : Int) (f : Bool) (t : ByteArray) (ns : List ByteArray) (kids : List Js) : Prop :=
  (f = true → k = 2) ∧ (t.size ≠ 0 → k = 3 ∨ k = 4) ∧ (k < 5 → kids.length = 0) ∧ (k ≠ 6 → ns.length = 0)
/-- .. and behind them. -/
def TailJ (k : Int) (t : ByteArray) (ns : List ByteArray) (kids : List Js) : Prop :=
  k = 1 ∨ k = 2 ∨ k = 5 ∨ (k = 3 ∧ NumP t) ∨ (k = 4 ∧ QuoP t) ∨ (k = 6 ∧ ns.length = kids.length ∧ NmsP ns)
theorem one_iff {k : Int} {f : Bool} {t : ByteArray} {ns : List ByteArray} {kids : List Js} : OneP k f t ns kids ↔ BareJ k f t ns kids ∧ TailJ k t ns kids := by
  unfold OneP BareJ TailJ
  constructor
  · rintro (⟨rfl, rfl, h⟩ | ⟨rfl, h⟩ | ⟨rfl, rfl, h1, h⟩ | ⟨rfl, rfl, h1, h⟩ | ⟨rfl, rfl, h⟩ | ⟨rfl, rfl, h, h1, h2⟩)
    · simp_all
    · simp_all
    · simp_all
    · simp_all
    · simp_all
    · simp_all
  · rintro ⟨⟨h1, h2, h3, h4⟩, h⟩
    have hf : k ≠ 2 → f = false := fun h => by cases f; rfl; exact absurd (h1 rfl) h
    have ht : k ≠ 3 → k ≠ 4 → t.size = 0 := fun h h' => by
      rcases Nat.eq_zero_or_pos t.size with h0 | h0
      · exact h0
      · rcases h2 (by omega) with q | q <;> omega
    rcases h with rfl | rfl | rfl | ⟨rfl, h⟩ | ⟨rfl, h⟩ | ⟨rfl, h, h'⟩
    · exact .inl ⟨rfl, hf (by omega), ht (by omega) (by omega), h4 (by omega), h3 (by omega)⟩
    · exact .inr (.inl ⟨rfl, ht (by omega) (by omega), h4 (by omega), h3 (by omega)⟩)
    · exact .inr (.inr (.inr (.inr (.inl ⟨rfl, hf (by omega), ht (by omega) (by omega), h4 (by omega)⟩))))
    · exact .inr (.inr (.inl ⟨rfl, hf (by omega), h, h4 (by omega), h3 (by omega)⟩))
    · exact .inr (.inr (.inr (.inl ⟨rfl, hf (by omega), h, h4 (by omega), h3 (by omega)⟩)))
    · exact .inr (.inr (.inr (.inr (.inr ⟨rfl, hf (by omega), ht (by omega) (by omega), h, h'⟩))))
theorem jok_iff {k : Int} {f : Bool} {t : ByteArray} {ns : List ByteArray} {kids : List Js} : JokP (.mk k f t ns kids) ↔ OneP k f t ns kids ∧ ∀ p ∈ kids, JokP p :=
  ⟨fun h => ⟨h.one, h.kids⟩, fun ⟨h1, h2⟩ => .mk k f t ns kids h1 h2⟩

end Go.Proofs.YtkhcappjhefkjaaGreatDoor

