/- Whether nodes are a tree: isTree. -/
import Derived.Test.YtcanhkngikeeiaaN4
namespace Go.Proofs.Ytcanhkngikeeiaa
open Go.RowKit
set_option linter.unusedVariables false

theorem info4 : (Try.prog.info? 4).map (fun i => (i.zero, i.size, i.bytes)) = some (some (.bool false), 1, 1) := by kernel_rfl
theorem KS.alloc {w0 w : World} {g n : Nat} {t : TypeId} {f : List Bool → List Value} {s : List Bool} (h : KS w0 g t f n s w) (o : Obj) : KS w0 g t f n s (w.alloc o) := ⟨h.o.alloc o, h.l, h.b.alloc h.b.size o, h.g0⟩

set_option maxRecDepth 100000 in
set_option maxHeartbeats 2000000 in
theorem isTree_any (a : Option Addr) (c : Nat) (ns : List Node) (w : World) (hr : Nodes w a ns) (hm : ns.length ≤ 1048576) (hs : Small ns) :
    Calls Try.prog 65 #[.slice a ns.length c] w fun e w' => e = .returned (.bool (treeB ns)) ∧ Below w.heap.size w w' := by
  have HR := Lib.hid hr
  have HS := Lib.hid hs
  clear hr hs
  by_cases h1 : ns.length < 1
  · have h1' : (ns.length : Int) < 1 := by omega
    go_enter Try.func65, Try.ntmps65
    go_wp2
    go_ret
    exact ⟨ret_bool (by simp [treeB]; omega), Below.refl _ _⟩
  have h1' : ¬ (ns.length : Int) < 1 := by omega
  by_cases h2 : 241 < ns.length
  · have h2' : (241 : Int) < (ns.length : Int) := by omega
    go_enter Try.func65, Try.ntmps65
    go_wp2
    go_ret
    exact ⟨ret_bool (by simp [treeB]; omega), Below.refl _ _⟩
  have h2' : ¬ (241 : Int) < (ns.length : Int) := by omega
  have hmk := run_make_row' (P := Try.prog) 111 4 (.bool false) 1 Try.underlying111 info4 rfl .i64 .i64 ns.length (by omega) (by omega)
  go_enter Try.func65, Try.ntmps65
  go_wp2
  clear hmk
  have HK : KS w w.heap.size 4 bools ns.length (List.replicate ns.length false) (w.alloc (.cells (madeCells #[.bool false] ns.length) 4)) := ⟨by simpa [bools] using Own.made w 4 (.bool false) ns.length, by simp, below_box _, Nat.le_refl _⟩
  generalize w.alloc (.cells (madeCells #[.bool false] ns.length) 4) = w1 at HK ⊢
  go_loopw [21] (fun i wr => ∃ k : Nat, k ≤ ns.length ∧ i = .int .i64 k ∧ ∃ s, Hid (Left ns k s) ∧ KS w w.heap.size 4 bools ns.length s wr) (fun i _ => ns.length - (intOf i).toNat)
  case atStart => exact ⟨0, Nat.zero_le _, rfl, _, rfl, HK⟩
  case round =>
    clear HK
    obtain ⟨i, hi, rfl, s, HLf, HK⟩ := hrel
    by_cases hlt : i < ns.length
    · have hlt' : (i : Int) < (ns.length : Int) := by omega
      obtain ⟨hz1, hz2⟩ := HS.out _ (List.getElem_mem hlt)
      have HKf := Lib.hid (HLf.out.kids hlt)
      clear HLf
      obtain ⟨b, off, rfl, K, kc, J, jc, hn0⟩ := HR.out.at_ hlt
      have hn := hn0.keep HK.b
      generalize hnd : ns[i] = nd at *
      have HND := Lib.hid hnd
      clear hnd
      have c0 := hn.c0
      have c1 := hn.c1
      have c2 := hn.c2
      have HKR := Lib.hid hn0.k
      clear hn hn0
      rename World => W
      go_wp2
      go_loopw [29] (fun k wr => ∃ j : Nat, j ≤ nd.kids.length ∧ k = .int .i64 j ∧ ∃ s, Hid (LeftK ns i j nd.kids s) ∧ KS w w.heap.size 4 bools ns.length s wr) (fun k _ => nd.kids.length - (intOf k).toNat)
      case atStart => exact ⟨0, Nat.zero_le _, rfl, _, HKf, HK.alloc _⟩
      case round =>
        clear HK HKf c0 c1 c2
        obtain ⟨j, hj, rfl, s, HKf, HK⟩ := hrel
        by_cases hjl : j < nd.kids.length
        · have hjl' : (j : Int) < (nd.kids.length : Int) := by omega
          obtain ⟨kb, ko, rfl, hck⟩ := (HKR.out.keep HK.b).int hjl
          generalize hx : nd.kids[j] = x at *
          have HX := Lib.hid hx
          clear hx
          by_cases hin1 : (i : Int) < x
          · have hin1' : ¬ x ≤ (i : Int) := by omega
            by_cases hin2 : x < (ns.length : Int)
            · have hin2' : ¬ (ns.length : Int) ≤ x := by omega
              obtain ⟨xn, rfl⟩ : ∃ xn : Nat, x = xn := ⟨x.toNat, by omega⟩
              cases hsx : s.getD xn false
              · have ov : wr.cell? ⟨w.heap.size, xn, none⟩ = some (.bool false) := by
                  rw [HK.o.cell]
                  have hl := HK.l
                  rw [List.getD_eq_getElem?_getD, List.getElem?_eq_getElem (by omega)] at hsx
                  simp [bools, List.getElem?_eq_getElem (show xn < s.length by omega)]
                  simpa using hsx
                have of := HK.o.frozen xn
                have HN := Lib.hid (HKf.out.next hjl HX.out (by omega) (by omega) hsx)
                have HK2 : KS w w.heap.size 4 bools ns.length (s.set xn true) (wr.setCell ⟨w.heap.size, xn, none⟩ (.bool true)) := ⟨by have := HK.o.set_ xn (.bool true); rwa [bools_set] at this, by simp [HK.l], HK.b.setCell (Nat.le_refl _) _, HK.g0⟩
                have hsz := HK.o.lt
                clear HKf HK hsx
                go_wp2
                go_roundw
                case rel => exact ⟨j + 1, by omega, by go_num, _, HN, HK2⟩
                case measure => simp [intOf]; omega
              · have ov : wr.cell? ⟨w.heap.size, xn, none⟩ = some (.bool true) := by
                  rw [HK.o.cell]
                  have hl := HK.l
                  rw [List.getD_eq_getElem?_getD, List.getElem?_eq_getElem (by omega)] at hsx
                  simp [bools, List.getElem?_eq_getElem (show xn < s.length by omega)]
                  simpa using hsx
                have HN := Lib.hid (HKf.out.stop hjl HX.out (by intro h; have := h.2.2; simp at this hsx; simp [this] at hsx))
                clear HKf hsx
                go_wp2
                go_ret
                exact ⟨ret_bool HN.out.symm, HK.b⟩
            · have hin2' : (ns.length : Int) ≤ x := by omega
              have HN := Lib.hid (HKf.out.stop hjl HX.out (by omega))
              clear HKf
              go_wp2
              go_ret
              exact ⟨ret_bool HN.out.symm, HK.b⟩
          · have hin1' : x ≤ (i : Int) := by omega
            have HN := Lib.hid (HKf.out.stop hjl HX.out (by omega))
            clear HKf
            go_wp2
            go_ret
            exact ⟨ret_bool HN.out.symm, HK.b⟩
        · have hjl' : ¬ (j : Int) < (nd.kids.length : Int) := by omega
          have HLf := Lib.hid (HKf.out.done (by omega))
          clear HKf
          go_wp2
          go_roundw
          case rel => exact ⟨i + 1, by omega, by go_num, _, HLf, HK⟩
          case measure => simp [intOf]; omega
    · have hlt' : ¬ (i : Int) < (ns.length : Int) := by omega
      go_wp2
      go_ret
      exact ⟨ret_bool (HLf.out.all (by omega) (by omega) (by omega)).symm, HK.b⟩

end Go.Proofs.Ytcanhkngikeeiaa
