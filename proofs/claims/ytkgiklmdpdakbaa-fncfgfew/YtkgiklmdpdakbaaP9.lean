/- The specification of grammars, walked: l2Flat, l2Shallow, l2Size. -/
import Derived.Test.YtkgiklmdpdakbaaJ1
namespace Go.Proofs.Ytkgiklmdpdakbaa
open Go.RowKit
set_option linter.unusedVariables false

def Pt.kind : Pt → Int
  | .mk k _ _ _ _ _ _ => k
/-- None of the kids is of a kind. -/
def FlatP (k : Int) (kids : List Pt) : Prop := ∀ p ∈ kids, p.kind ≠ k

theorem PtAt.kind {w : World} {B0 b off : Nat} {p : Pt} (h : PtAt w B0 b off p) : w.cell? ⟨b, off, none⟩ = some (.int .i64 p.kind) := by
  cases h with
  | mk _ _ _ _ _ _ _ _ _ _ _ _ _ _ _ _ _ c0 => exact c0

set_option maxRecDepth 100000 in
set_option maxHeartbeats 1000000 in
theorem l2Flat_any (k : Int) (t : ByteArray) (lo hi : List Int) (kids : List Pt) (mn mx : Int) (A B K : Option Addr) (ca cb kc B0 : Nat) (w : World) (hk : Pts w B0 K kids) (hm : kids.length ≤ 1048576) :
    Calls Try.prog 81 #[.agg #[.int .i64 k, .string t, .slice A lo.length ca, .slice B hi.length cb, .slice K kids.length kc, .int .i64 mn, .int .i64 mx]] w (BoolPost (FlatP k kids) w) := by
  have hbx : Below w.heap.size w (w.alloc (.cells #[.int .i64 k, .string t, .slice A lo.length ca, .slice B hi.length cb, .slice K kids.length kc, .int .i64 mn, .int .i64 mx] 88)) := below_box _
  have HK := Lib.hid (hk.keep hbx)
  have k0 : (w.alloc (.cells #[.int .i64 k, .string t, .slice A lo.length ca, .slice B hi.length cb, .slice K kids.length kc, .int .i64 mn, .int .i64 mx] 88)).cell? ⟨w.heap.size, 0, none⟩ = some (.int .i64 k) := by simp
  have k4 : (w.alloc (.cells #[.int .i64 k, .string t, .slice A lo.length ca, .slice B hi.length cb, .slice K kids.length kc, .int .i64 mn, .int .i64 mx] 88)).cell? ⟨w.heap.size, 4, none⟩ = some (.slice K kids.length kc) := by simp
  clear hk
  go_enter Try.func81, Try.ntmps81
  go_wp2
  generalize w.alloc (.cells #[.int .i64 k, .string t, .slice A lo.length ca, .slice B hi.length cb, .slice K kids.length kc, .int .i64 mn, .int .i64 mx] 88) = W0 at *
  have HK0 := Lib.hid k0
  have HK4 := Lib.hid k4
  have HBX := Lib.hid hbx
  clear k0 k4 hbx
  go_loopw [3] (fun i wr => ∃ j : Nat, j ≤ kids.length ∧ i = .int .i64 j ∧ Hid (∀ u (h : u < kids.length), u < j → kids[u].kind ≠ k) ∧ Below W0.heap.size W0 wr) (fun i _ => kids.length - (intOf i).toNat)
  case atStart => exact ⟨0, Nat.zero_le _, rfl, fun u _ hu => by omega, Below.refl _ _⟩
  case round =>
    obtain ⟨j, hj, rfl, HU, hb⟩ := hrel
    have k0 := cell_keep hb HK0.out
    have k4 := cell_keep hb HK4.out
    have kl := cell_lt k0
    simp only at kl
    by_cases hlt : j < kids.length
    · have hlt' : (j : Int) < (kids.length : Int) := by omega
      obtain ⟨b, off, rfl, hp⟩ := (HK.out.keep hb).at_ hlt
      have c0 := hp.kind
      clear hp
      have HNO : Hid (FlatP k kids → kids[j].kind ≠ k) := fun h => h _ (List.getElem_mem hlt)
      have HU2 : Hid (kids[j].kind ≠ k → ∀ u (h : u < kids.length), u < j + 1 → kids[u].kind ≠ k) := fun h1 u hu huj => by
        rcases Nat.lt_succ_iff_lt_or_eq.1 huj with h3 | h3
        · exact HU.out u hu h3
        · subst h3; exact h1
      generalize kids[j].kind = kk at *
      by_cases g : kk = k
      · subst g
        have e1 : (kk == kk) = true := by simp
        go_wp2
        go_quiet (fail)
        go_wp2
        go_ret
        exact ⟨false, rfl, iffF (fun h => HNO.out h rfl), HBX.out.trans ((below_drewN hb _).mono HBX.out.size)⟩
      · have e1 : (kk == k) = false := by simp [g]
        have HU3 := Lib.hid (HU2.out g)
        clear g HU HU2
        go_wp2
        go_quiet (fail)
        go_wp2
        go_roundw
        case rel => exact ⟨j + 1, by omega, by go_num, HU3, below_drewN hb _⟩
        case measure => simp [intOf]; omega
    · have hlt' : ¬ (j : Int) < (kids.length : Int) := by omega
      go_wp2
      go_ret
      refine ⟨true, rfl, iffT (fun p hp => ?_), HBX.out.trans (hb.mono HBX.out.size)⟩
      obtain ⟨u, hu, rfl⟩ := List.getElem_of_mem hp
      exact HU.out u hu (by omega)

/-- No part has too many kids. -/
inductive Narrow : Pt → Prop
  | mk (k : Int) (t : ByteArray) (lo hi : List Int) (kids : List Pt) (mn mx : Int) : kids.length ≤ 160 → (∀ p ∈ kids, Narrow p) → Narrow (.mk k t lo hi kids mn mx)

theorem htL_le {kids : List Pt} {d : Nat} : htL kids ≤ d ↔ ∀ p ∈ kids, p.ht ≤ d := by
  induction kids with
  | nil => simp [htL]
  | cons p r ih => simp [htL, Nat.max_le, ih]

/-- l2Shallow, at most so deep. -/
def ShP (d : Nat) : Prop := ∀ (k : Int) (t : ByteArray) (lo hi : List Int) (kids : List Pt) (mn mx : Int) (A B K : Option Addr) (ca cb kc B0 : Nat) (w : World), Pts w B0 K kids → Lim 1048576 (.mk k t lo hi kids mn mx) →
  Calls Try.prog 66 #[.agg #[.int .i64 k, .string t, .slice A lo.length ca, .slice B hi.length cb, .slice K kids.length kc, .int .i64 mn, .int .i64 mx], .int .i64 (d : Nat)] w (BoolPost (htL kids + 1 ≤ d ∧ Narrow (.mk k t lo hi kids mn mx)) w)

set_option maxRecDepth 100000 in
set_option maxHeartbeats 1000000 in
theorem shallow0 : ShP 0 := by
  intro k t lo hi kids mn mx A B K ca cb kc B0 w hk hl
  go_enter Try.func66, Try.ntmps66
  go_wp2
  go_ret
  exact ⟨false, rfl, iffF (fun h => by have := h.1; omega), below_box _⟩

set_option maxRecDepth 100000 in
set_option maxHeartbeats 1000000 in
theorem shallowS {d : Nat} (IH : ShP d) (hd : d ≤ 8) : ShP (d + 1) := by
  intro k t lo hi kids mn mx A B K ca cb kc B0 w hk hl
  have HI := Lib.hid IH
  cases hl with
  | mk _ _ _ _ _ _ _ l1 l2 l3 hm l5 =>
  have HL5 := Lib.hid l5
  clear IH l5
  have hd1 : ¬ ((d : Int) + 1) < 1 := by omega
  have hbx : Below w.heap.size w (w.alloc (.cells #[.int .i64 k, .string t, .slice A lo.length ca, .slice B hi.length cb, .slice K kids.length kc, .int .i64 mn, .int .i64 mx] 88)) := below_box _
  have HK := Lib.hid (hk.keep hbx)
  have k4 : (w.alloc (.cells #[.int .i64 k, .string t, .slice A lo.length ca, .slice B hi.length cb, .slice K kids.length kc, .int .i64 mn, .int .i64 mx] 88)).cell? ⟨w.heap.size, 4, none⟩ = some (.slice K kids.length kc) := by simp
  clear hk
  by_cases h160 : 160 < kids.length
  · have h160' : (160 : Int) < (kids.length : Int) := by omega
    have H := Lib.hid h160
    go_enter Try.func66, Try.ntmps66
    go_wp2
    go_ret
    refine ⟨false, rfl, iffF (fun h => ?_), hbx⟩
    cases h.2 with
    | mk _ _ _ _ _ _ _ q => have := H.out; omega
  · have h160' : ¬ (160 : Int) < (kids.length : Int) := by omega
    go_enter Try.func66, Try.ntmps66
    go_wp2
    generalize w.alloc (.cells #[.int .i64 k, .string t, .slice A lo.length ca, .slice B hi.length cb, .slice K kids.length kc, .int .i64 mn, .int .i64 mx] 88) = W0 at *
    have HK4 := Lib.hid k4
    have HBX := Lib.hid hbx
    clear k4 hbx
    go_loopw [5] (fun i wr => ∃ j : Nat, j ≤ kids.length ∧ i = .int .i64 j ∧ Hid (∀ u (h : u < kids.length), u < j → kids[u].ht ≤ d ∧ Narrow kids[u]) ∧ Below W0.heap.size W0 wr) (fun i _ => kids.length - (intOf i).toNat)
    case atStart => exact ⟨0, Nat.zero_le _, rfl, fun u _ hu => by omega, Below.refl _ _⟩
    case round =>
      obtain ⟨j, hj, rfl, HU, hb⟩ := hrel
      have k4 := cell_keep hb HK4.out
      have kl := cell_lt k4
      simp only at kl
      by_cases hlt : j < kids.length
      · have hlt' : (j : Int) < (kids.length : Int) := by omega
        obtain ⟨b, off, rfl, hp⟩ := (HK.out.keep hb).at_ hlt
        have HNO : Hid (htL kids + 1 ≤ d + 1 ∧ Narrow (.mk k t lo hi kids mn mx) → kids[j].ht ≤ d ∧ Narrow kids[j]) := fun h => by
          refine ⟨htL_le.1 (by omega) _ (List.getElem_mem hlt), ?_⟩
          cases h.2 with
          | mk _ _ _ _ _ _ _ _ q => exact q _ (List.getElem_mem hlt)
        have HU2 : Hid (kids[j].ht ≤ d ∧ Narrow kids[j] → ∀ u (h : u < kids.length), u < j + 1 → kids[u].ht ≤ d ∧ Narrow kids[u]) := fun h1 u hu huj => by
          rcases Nat.lt_succ_iff_lt_or_eq.1 huj with h3 | h3
          · exact HU.out u hu h3
          · subst h3; exact h1
        have hlim := HL5.out _ (List.getElem_mem hlt)
        generalize kids[j] = p at *
        obtain ⟨pk, pt, plo, phi, pkids, pmn, pmx⟩ := p
        rw [ht_mk] at HNO HU2
        obtain ⟨PA, PB, PK, pa, pb, pc, hc, hv⟩ := hp.open_
        obtain ⟨c0, c1, c2, c3, c4, c5, c6⟩ := hc
        have HC := Lib.hid (HI.out pk pt plo phi pkids pmn pmx PA PB PK pa pb pc B0 wr hv.k hlim)
        clear hp hv hlim
        go_wp2_with fail
        refine HC.out.mono ?_
        rintro e w2 ⟨r, rfl, hr, hb2⟩
        have hb' : Below W0.heap.size W0 w2 := hb.trans (hb2.mono hb.size)
        have HRR := Lib.hid hr
        clear hb hb2 HC hr c0 c1 c2 c3 c4 c5 c6 k4
        cases r
        · go_wp2
          go_ret
          exact ⟨false, rfl, iffF (fun h => by have := HRR.out.2 (HNO.out ⟨by have := h.1; omega, h.2⟩); cases this), HBX.out.trans (hb'.mono HBX.out.size)⟩
        · have HU3 := Lib.hid (HU2.out (HRR.out.1 rfl))
          go_wp2
          go_roundw
          case rel => exact ⟨j + 1, by omega, by go_num, HU3, hb'⟩
          case measure => simp [intOf]; omega
      · have hlt' : ¬ (j : Int) < (kids.length : Int) := by omega
        go_wp2
        go_ret
        refine ⟨true, rfl, iffT ⟨?_, .mk k t lo hi kids mn mx (by omega) (fun p hp => ?_)⟩, HBX.out.trans (hb.mono HBX.out.size)⟩
        · have : htL kids ≤ d := htL_le.2 (fun p hp => by
            obtain ⟨u, hu, rfl⟩ := List.getElem_of_mem hp
            exact (HU.out u hu (by omega)).1)
          omega
        · obtain ⟨u, hu, rfl⟩ := List.getElem_of_mem hp
          exact (HU.out u hu (by omega)).2

theorem shallow_all : ∀ d, d ≤ 9 → ShP d
  | 0, _ => shallow0
  | d + 1, h => shallowS (shallow_all d (by omega)) (by omega)

mutual
/-- How many parts there are. -/
def Pt.nodes : Pt → Nat
  | .mk _ _ _ _ kids _ _ => nodesL kids + 1
def nodesL : List Pt → Nat
  | [] => 0
  | p :: r => p.nodes + nodesL r
end
theorem nodes_mk {k : Int} {t : ByteArray} {lo hi : List Int} {kids : List Pt} {mn mx : Int} : (Pt.mk k t lo hi kids mn mx).nodes = nodesL kids + 1 := by rw [Pt.nodes]
theorem nodesL_append (a b : List Pt) : nodesL (a ++ b) = nodesL a + nodesL b := by
  induction a with
  | nil => simp [nodesL]
  | cons p r ih => simp [nodesL, ih]; omega
theorem nodesL_take {kids : List Pt} {j : Nat} (h : j < kids.length) : nodesL (kids.take (j + 1)) = nodesL (kids.take j) + kids[j].nodes := by
  rw [List.take_succ_eq_append_getElem h, nodesL_append]
  simp [nodesL]
theorem nodesL_le (kids : List Pt) (j : Nat) : nodesL (kids.take j) ≤ nodesL kids := by
  have : nodesL kids = nodesL (kids.take j) + nodesL (kids.drop j) := by rw [← nodesL_append, List.take_append_drop]
  omega
theorem nodesL_bound {M : Nat} : ∀ (kids : List Pt), (∀ p ∈ kids, p.nodes ≤ M) → nodesL kids ≤ kids.length * M
  | [], _ => by simp [nodesL]
  | p :: r, h => by
    have h1 := nodesL_bound r (fun q hq => h q (List.mem_cons_of_mem _ hq))
    have h2 := h p (List.mem_cons_self ..)
    simp only [nodesL, List.length_cons, Nat.add_mul, Nat.one_mul]
    omega
theorem nodes_bound : ∀ (d : Nat) (p : Pt), p.ht ≤ d → Narrow p → p.nodes ≤ 161 ^ d
  | 0, .mk k t lo hi kids mn mx, h, _ => by rw [ht_mk] at h; omega
  | d + 1, .mk k t lo hi kids mn mx, h, hn => by
    rw [ht_mk] at h
    cases hn with
    | mk _ _ _ _ _ _ _ q1 q2 =>
    have h1 := nodesL_bound (M := 161 ^ d) kids (fun p hp => nodes_bound d p (Nat.le_trans (ht_mem hp) (by omega)) (q2 p hp))
    have h2 : kids.length * 161 ^ d ≤ 160 * 161 ^ d := Nat.mul_le_mul_right _ q1
    have h3 : 161 ^ 0 ≤ 161 ^ d := Nat.pow_le_pow_right (by omega) (Nat.zero_le d)
    rw [Nat.pow_zero] at h3
    rw [nodes_mk, Nat.pow_succ]
    omega

/-- l2Size, of parts that are at most so high. -/
def SiP (n : Nat) : Prop := ∀ (k : Int) (t : ByteArray) (lo hi : List Int) (kids : List Pt) (mn mx : Int) (A B K : Option Addr) (ca cb kc B0 : Nat) (w : World), htL kids + 1 ≤ n → Pts w B0 K kids → kids.length ≤ 160 → (∀ p ∈ kids, Narrow p) →
  Calls Try.prog 68 #[.agg #[.int .i64 k, .string t, .slice A lo.length ca, .slice B hi.length cb, .slice K kids.length kc, .int .i64 mn, .int .i64 mx]] w (fun e w' => e = .returned (.int .i64 (nodesL kids + 1 : Nat)) ∧ Below w.heap.size w w')

set_option maxRecDepth 100000 in
set_option maxHeartbeats 1000000 in
theorem sizeS {n : Nat} (IH : SiP n) (hn8 : n ≤ 7) : SiP (n + 1) := by
  intro k t lo hi kids mn mx A B K ca cb kc B0 w hh hk hm hn
  have hbx : Below w.heap.size w (w.alloc (.cells #[.int .i64 k, .string t, .slice A lo.length ca, .slice B hi.length cb, .slice K kids.length kc, .int .i64 mn, .int .i64 mx] 88)) := below_box _
  have HK := Lib.hid (hk.keep hbx)
  have k4 : (w.alloc (.cells #[.int .i64 k, .string t, .slice A lo.length ca, .slice B hi.length cb, .slice K kids.length kc, .int .i64 mn, .int .i64 mx] 88)).cell? ⟨w.heap.size, 4, none⟩ = some (.slice K kids.length kc) := by simp
  have hbig : nodesL kids + 1 ≤ 452185063739806721 := by
    have h1 := nodes_bound (n + 1) (.mk k t lo hi kids mn mx) (by rw [ht_mk]; omega) (.mk k t lo hi kids mn mx hm hn)
    rw [nodes_mk] at h1
    have h2 : 161 ^ (n + 1) ≤ 161 ^ 8 := Nat.pow_le_pow_right (by omega) (by omega)
    omega
  have HI := Lib.hid IH
  have HN := Lib.hid hn
  have HH := Lib.hid hh
  clear hk IH hn hh
  go_enter Try.func68, Try.ntmps68
  go_wp2
  generalize w.alloc (.cells #[.int .i64 k, .string t, .slice A lo.length ca, .slice B hi.length cb, .slice K kids.length kc, .int .i64 mn, .int .i64 mx] 88) = W0 at *
  have HK4 := Lib.hid k4
  have HBX := Lib.hid hbx
  clear k4 hbx
  go_loopw [3, 4] (fun q i wr => ∃ j : Nat, j ≤ kids.length ∧ i = .int .i64 j ∧ q = .int .i64 (nodesL (kids.take j) + 1 : Nat) ∧ Below W0.heap.size W0 wr) (fun _ i _ => kids.length - (intOf i).toNat)
  case atStart => exact ⟨0, Nat.zero_le _, rfl, by simp [nodesL], Below.refl _ _⟩
  case round =>
    obtain ⟨j, hj, rfl, rfl, hb⟩ := hrel
    have k4 := cell_keep hb HK4.out
    have kl := cell_lt k4
    simp only at kl
    by_cases hlt : j < kids.length
    · have hlt' : (j : Int) < (kids.length : Int) := by omega
      obtain ⟨b, off, rfl, hp⟩ := (HK.out.keep hb).at_ hlt
      have hmem := List.getElem_mem hlt
      have hnar := HN.out _ hmem
      have hht := ht_mem hmem
      have HT := Lib.hid (nodesL_take hlt)
      have hle := nodesL_le kids (j + 1)
      rw [nodesL_take hlt] at hle
      clear hmem
      generalize kids[j] = p at *
      obtain ⟨pk, pt, plo, phi, pkids, pmn, pmx⟩ := p
      rw [nodes_mk] at hle HT
      rw [ht_mk] at hht
      obtain ⟨PA, PB, PK, pa, pb, pc, hc, hv⟩ := hp.open_
      obtain ⟨c0, c1, c2, c3, c4, c5, c6⟩ := hc
      cases hnar with
      | mk _ _ _ _ _ _ _ q1 q2 =>
      have HC := Lib.hid (HI.out pk pt plo phi pkids pmn pmx PA PB PK pa pb pc B0 wr (by have := HH.out; omega) hv.k q1 q2)
      generalize nodesL (kids.take j) = x at *
      obtain ⟨y, hy⟩ : ∃ y, nodesL pkids + 1 = y := ⟨_, rfl⟩
      rw [hy] at HC HT hle
      clear hp hv q1 q2 hht hy
      have hw1 : IntKind.i64.wrap (((x + 1 : Nat) : Int) + ((y : Nat) : Int)) = ((x + 1 : Nat) : Int) + ((y : Nat) : Int) := IntWalk.i64_in _ (by omega)
      obtain ⟨x1, hx1⟩ : ∃ x1, x + 1 = x1 := ⟨_, rfl⟩
      rw [hx1] at hw1 ⊢
      have HX1 := Lib.hid hx1
      clear hx1
      go_wp2_with fail
      refine HC.out.mono ?_
      rintro e w2 ⟨rfl, hb2⟩
      have hb' : Below W0.heap.size W0 w2 := hb.trans (hb2.mono hb.size)
      clear hb hb2 HC c0 c1 c2 c3 c4 c5 c6 k4
      go_wp2
      go_roundw
      case rel => exact ⟨j + 1, by omega, by go_num, by rw [HT.out]; have := HX1.out; congr 1; omega, hb'⟩
      case measure => simp [intOf]; omega
    · have hlt' : ¬ (j : Int) < (kids.length : Int) := by omega
      obtain rfl : j = kids.length := by omega
      rw [List.take_length]
      go_wp2
      go_ret
      exact ⟨rfl, HBX.out.trans (hb.mono HBX.out.size)⟩

theorem size_all : ∀ n, n ≤ 8 → SiP n
  | 0, _ => by intro k t lo hi kids mn mx A B K ca cb kc B0 w hh; omega
  | n + 1, h => sizeS (size_all n (by omega)) (by omega)

end Go.Proofs.Ytkgiklmdpdakbaa

