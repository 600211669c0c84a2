/- The walk of DrawSources. -/
import Derived.Test.YtfolfeaednmcoaaMeet
import Derived.Test.YtfolfeaednmcoaaOpenS
namespace Go.Proofs.Ytfolfeaednmcoaa
open Go.RowKit
set_option linter.unusedVariables false
set_option linter.unusedSimpArgs false
set_option maxRecDepth 100000
theorem LS.below {w w' : World} {a : Option Addr} {ls : List Cs} (h : LS w a ls) (hb : Below w.heap.size w w') : LS w' a ls :=
  ⟨fun c hc => ⟨(h.us c hc).len, (h.us c hc).ul.below hb, (h.us c hc).bare, (h.us c hc).few⟩, by
    rcases h.at_ with h | ⟨bl, ol, e, hc⟩
    · exact .inl h
    · exact .inr ⟨bl, ol, e, fun i c hi j v hv => cell_of_below hb (hc i c hi j v hv)⟩⟩
/-- words appended to a row of the call's own, nil or not -/
theorem run_append_ul (w : World) (base : Nat) (ty : TypeId) (v : Value) (n : Nat) (xs : List Value) (hown : w.ownsRow base 22 1 v n xs) (a : Option Addr) (m c : Nat) (zs : List Int) (hl : zs.length = m) (hU : Ul w a zs) (hb : a = none → c = 0) (hn : n ≤ 2097152) (hm : m ≤ 2097152) (hbase : base ≤ w.heap.size) :
    ∃ v' w', (Builtin.append_ #[48, 48] ty #[v, .slice a m c]).run Try.prog w = .ok v' w' ∧ w'.ownsRow base 22 1 v' (n + m) (xs ++ uvals zs) ∧ w.grownBy w' v.ownBlock ∧ (v' = .slice none 0 0 ↔ v = .slice none 0 0 ∧ m = 0) ∧ (v'.ownBlock = v.ownBlock ∨ v'.ownBlock = some w.heap.size) := by
  obtain ⟨i0, hi, hz0, hz1, hz2⟩ := info_parts Try.info22
  cases a with
  | none =>
    have hz : zs = [] := by
      rcases hU with h | ⟨b, o, e, _⟩
      · exact h
      · cases e
    subst hz
    have hm0 : m = 0 := by simpa using hl.symm
    have hc0 := hb rfl
    subst hm0
    subst hc0
    exact ⟨v, w, run_append_owned_none w base 48 ty 22 i0 1 Try.underlying48 hi v n xs hown, by simpa [uvals] using hown, World.grownBy.refl _ _, by simp, .inl rfl⟩
  | some ad =>
    obtain ⟨v', w', h1, h2, h3, h4, h5⟩ := run_append_own_at (P := Try.prog) w base 48 ty 22 i0 (.int .u64 0) 1 8 Try.underlying48 hi hz0 hz1 hz2 rfl (by decide) v n xs hown ad m c (uvals zs) (by rw [uvals_length, hl, Nat.mul_one]) (ul_news hU) (uvals_one _) (by unfold maxLen; omega) (by omega) hbase
    exact ⟨v', w', h1, h2, h3, h4, h5⟩
theorem wpList_append_ul {ops : Array Oper} {rest : List Oper} {o : Oper} {a : Act} {w : World} {Q : Exit → Act → World → Prop} (hgd : o.guard = none) (s x : Operand)
    (ho : o.op = .call { callee := .builtin .append, args := #[s, x], argTypes := #[48, 48] }) (base : Nat) (v : Value) (n : Nat) (xs : List Value) (hs : a.eval s = v) (hown : w.ownsRow base 22 1 v n xs)
    (ad : Option Addr) (m c : Nat) (zs : List Int) (hx : a.eval x = .slice ad m c) (hl : zs.length = m) (hU : Ul w ad zs) (hb : ad = none → c = 0) (hn : n ≤ 2097152) (hm : m ≤ 2097152) (hbase : base ≤ w.heap.size)
    (h : ∀ v' w', w'.ownsRow base 22 1 v' (n + m) (xs ++ uvals zs) → w.grownBy w' v.ownBlock → (v' = .slice none 0 0 ↔ v = .slice none 0 0 ∧ m = 0) → (v'.ownBlock = v.ownBlock ∨ v'.ownBlock = some w.heap.size) → wpList Try.prog ops Q rest (a.put o.dst v') w') :
    wpList Try.prog ops Q (o :: rest) a w := by
  refine wpList_plain hgd fun K hK => ?_
  obtain ⟨v', w', hr, h2, h3, h4, h5⟩ := run_append_ul w base o.type v n xs hown ad m c zs hl hU hb hn hm hbase
  unfold Oper.wp execOp
  simp only [ho, resolve, invoke, builtin, Sem.run_bind, Sem.run_pure, Result.andThen_ok, List.map_toArray, List.map_cons, List.map_nil, hs, hx, hr]
  exact hK _ _ (h v' w' h2 h3 h4 h5)
theorem step_append_ul {ops : Array Oper} {o : Oper} {a : Act} {w : World} {K : Act → World → Prop} {Q : Exit → Act → World → Prop} {E : Prop}
    (hg : o.guard = none) (s x : Operand) (hop : o.op = Op.call { callee := Callee.builtin Builtin.append, args := #[s, x], argTypes := #[48, 48] })
    (base : Nat) (v : Value) (n : Nat) (xs : List Value) (hs : a.eval s = v) (hown : w.ownsRow base 22 1 v n xs)
    (ad : Option Addr) (m c : Nat) (zs : List Int) (hx : a.eval x = .slice ad m c) (hl : zs.length = m) (hU : Ul w ad zs) (hb : ad = none → c = 0) (hn : n ≤ 2097152) (hm : m ≤ 2097152) (hbase : base ≤ w.heap.size)
    (hK : ∀ v' w', w'.ownsRow base 22 1 v' (n + m) (xs ++ uvals zs) → w.grownBy w' v.ownBlock → (v' = .slice none 0 0 ↔ v = .slice none 0 0 ∧ m = 0) → (v'.ownBlock = v.ownBlock ∨ v'.ownBlock = some w.heap.size) → K (a.put o.dst v') w') :
    if Region.wanted o (yielded ops a.tmps) = true then Oper.wp Try.prog o a w K Q else E := by
  have hw : Region.wanted o (yielded ops a.tmps) = true := by simp [Region.wanted, hg]
  rw [if_pos hw]
  obtain ⟨v', w', hrun, r1, r2, r3, r4⟩ := run_append_ul w base o.type v n xs hown ad m c zs hl hU hb hn hm hbase
  unfold Oper.wp
  simp [execOp, hop, resolve, invoke, builtin, hs, hx, hrun, Result.andThen]
  exact hK v' w' r1 r2 r3 r4
/-- the words that are given: a row of the call's own -/
theorem given_made {wr w1 w2 : World} {n : Nat} {v : Value} {zs : List Int} {O : Obj} (e1 : w1 = wr.alloc O) (hown : w2.ownsRow w1.heap.size 22 1 v (0 + n) ([] ++ uvals zs)) (hg : (w1.alloc (.cells #[] 22 (0, 0))).grownBy w2 (Value.slice (some ⟨wr.heap.size + 1, 0, none⟩) 0 0).ownBlock) (hnil : v = .slice none 0 0 ↔ Value.slice (some ⟨wr.heap.size + 1, 0, none⟩) 0 0 = .slice none 0 0 ∧ n = 0) :
    ∃ g c', v = .slice (some ⟨g, 0, none⟩) n c' ∧ Hid (w2.ownsRow w1.heap.size 22 1 (.slice (some ⟨g, 0, none⟩) n c') n (uvals zs)) ∧ Hid (Below w1.heap.size w1 w2) := by
  have hz : w1.heap.size = wr.heap.size + 1 := by rw [e1]; simp
  obtain ⟨a', c', e, h1, h2⟩ := empty_grown hown (by rw [hz]; exact hg)
  subst e
  have h1' := h1.out
  rcases h1'.2 with ⟨e, _⟩ | ⟨g, cp, cur, e, _⟩
  · have := (hnil.1 e).1; cases this
  · injection e with e1 e2 e3; subst e1; exact ⟨g, c', rfl, h1, h2⟩
/-- the words that are given, the first k of them written over -/
def Gv (w2 W : World) (base g n c : Nat) (zs : List Int) (k : Nat) : Prop := ∃ ys : List Int, ys.length = n ∧ (∀ j, k ≤ j → ys.getD j 0 = zs.getD j 0) ∧ W.ownsRow base 22 1 (.slice (some ⟨g, 0, none⟩) n c) n (uvals ys) ∧ Stp w2 W [g] [g]
theorem Gv.step {w2 W : World} {base g n c : Nat} {zs : List Int} {k : Nat} (h : Gv w2 W base g n c zs k) (x : Int) (hk : k < n) : Gv w2 (W.setCell ⟨g, k, none⟩ (.int .u64 x)) base g n c zs (k + 1) := by
  obtain ⟨ys, h1, h2, h3, h4⟩ := h
  refine ⟨ys.set k x, by simp [h1], fun j hj => ?_, ?_, h4.trans (Stp.set g k _ (by simp))⟩
  · rw [← h2 j (by omega)]
    simp only [List.getD_eq_getElem?_getD, List.getElem?_set]
    rw [if_neg (by omega)]
  · have := (h3.stored k (.int .u64 x)).1
    rw [show uvals (ys.set k x) = (uvals ys).set k (.int .u64 x) by simp [uvals]]
    exact this
theorem Gv.cell {w2 W : World} {base g n c : Nat} {zs : List Int} {k : Nat} (h : Gv w2 W base g n c zs k) (hk : k < n) : W.cell? ⟨g, k, none⟩ = some (.int .u64 (zs.getD k 0)) ∧ W.frozen? ⟨g, k, none⟩ = false := by
  obtain ⟨ys, h1, h2, h3, h4⟩ := h
  refine ⟨?_, h3.frozenAt k⟩
  obtain ⟨g', e, hc⟩ := own_at h3 k hk
  cases e
  rw [hc, h2 k (Nat.le_refl _)]
theorem empty_at (wr : World) (O : Obj) : ((wr.alloc O).alloc (.cells #[] 22 (0, 0))).ownsRow (wr.alloc O).heap.size 22 1 (.slice (some ⟨wr.heap.size + 1, 0, none⟩) 0 0) 0 [] := by
  have := own_empty (wr.alloc O); simpa using this
theorem empty_le (wr : World) (O : Obj) : (wr.alloc O).heap.size ≤ ((wr.alloc O).alloc (.cells #[] 22 (0, 0))).heap.size := by simp
/-- behind the words that are given: o's block, and all elder ones -/
theorem o_there {wr w2 : World} {O : Obj} (h : Below (wr.alloc O).heap.size (wr.alloc O) w2) : w2.heap[wr.heap.size]? = some O ∧ Below wr.heap.size wr w2 := by
  refine ⟨(h.block wr.heap.size (by simp)).trans (Go.heap_alloc_new wr O), ?_⟩
  have h1 : Below wr.heap.size wr (wr.alloc O) := (Below.refl _ _).alloc (Nat.le_refl _) _
  exact h1.trans ⟨h.os, h.tape, h.output, h.size, fun k hk => h.block k (by simp; omega)⟩
theorem gv_facts {wo w2 W : World} {g n c k : Nat} {zs : List Int} {O : Obj} (hG : Gv w2 W wo.heap.size g n c zs k) (hB : Below wo.heap.size wo w2) (hO : w2.heap[wo.heap.size]? = some O) (hgo : g ≠ wo.heap.size) : Below wo.heap.size wo W ∧ W.heap[wo.heap.size]? = some O := by
  obtain ⟨ys, h1, h2, h3, h4⟩ := hG
  have hg := h3.lt g rfl
  refine ⟨hB.trans (h4.below (by simpa using hg.1) hB.size), (h4.old _ (lt_of_block hO) (by simpa using fun e => hgo e.symm)).trans hO⟩
theorem ul_some {w : World} {a : Option Addr} {zs : List Int} (h : Ul w a zs) (k : Nat) (hk : k < zs.length) : ∃ b o, a = some ⟨b, o, none⟩ ∧ w.cell? ⟨b, o + k, none⟩ = some (.int .u64 (zs.getD k 0)) := by
  rcases h with h | ⟨b, o, e, hc⟩
  · subst h; simp at hk
  · exact ⟨b, o, e, hc k hk⟩
theorem o_cells {W : World} {b : Nat} {x0 x1 x2 x3 : Value} (h : W.heap[b]? = some (.cells #[x0, x1, x2, x3] 52 (0, 0))) : W.cell? ⟨b, 0, none⟩ = some x0 ∧ W.cell? ⟨b, 1, none⟩ = some x1 ∧ W.cell? ⟨b, 2, none⟩ = some x2 ∧ W.cell? ⟨b, 3, none⟩ = some x3 := by
  simp [World.cell?, h]
theorem Gv.drewN {w2 W : World} {base g n c : Nat} {zs : List Int} {k : Nat} (h : Gv w2 W base g n c zs k) (q : Nat) : Gv w2 (W.drewN q) base g n c zs k := by
  obtain ⟨ys, h1, h2, h3, h4⟩ := h
  exact ⟨ys, h1, h2, own_block h3 (fun _ _ => rfl), ⟨h4.os, h4.tape, h4.output, h4.size, h4.old, h4.new⟩⟩
set_option maxHeartbeats 4000000 in
theorem sources_nil (st : Int) (a : Option Addr) (n cap : Nat) (ls : List Cs) (w : World) (hl : ls.length = n) (hL : LS w a ls) (hs : sumU ls + n ≤ 1048576) :
    Calls Try.prog 5 #[.int .u64 st, .slice a n cap, .bool true] w fun e w' => e = .returned (.bool true) ∧ Below w.heap.size w w' := by
  have HL : Hid (ls.length = n ∧ LS w a ls) := ⟨hl, hL⟩
  have hn : n ≤ 1048576 := by omega
  clear hl hL hs
  go_enter Try.func5, Try.ntmps5
  go_wp2_with (first | (go_at_call 23; refine (new_any _ _).mono ?_; rintro e w1 ⟨rfl, rfl⟩))
  go_loopw [7, 9, 10, 11] (fun s l t k W => ∃ i : Nat, i ≤ n ∧ s = .pointer none ∧ l = .pointer none ∧ t = .pointer none ∧ k = .int .i64 i ∧ Below w.heap.size w W) (fun _ _ _ t _ => n - (intOf t).toNat)
  case atStart => exact ⟨0, by omega, rfl, rfl, rfl, rfl, (((Below.refl _ _).alloc (Nat.le_refl _) _).alloc (by simp) _)⟩
  case round =>
    obtain ⟨wo, hwo⟩ : ∃ wo, wo = wr := ⟨wr, rfl⟩
    subst hwo
    obtain ⟨i, hi', rfl, rfl, rfl, rfl, hB⟩ := hrel
    have HB : Hid (Below w.heap.size w wo) := hB
    have i0 : (0 : Int) ≤ i := by omega
    clear hB
    by_cases hin : i < n ∧ i < 100
    · obtain ⟨hin, hic⟩ := hin
      have hii : (i : Int) < n := by omega
      have hic' : (i : Int) < 100 := by omega
      obtain ⟨c, hc⟩ : ∃ c, ls[i]? = some c := ⟨ls[i]'(by have := HL.out.1; omega), List.getElem?_eq_getElem _⟩
      have hL1 := HL.out.2.below HB.out
      obtain ⟨bl, ol, ea, hcell⟩ : ∃ bl ol, a = some ⟨bl, ol, none⟩ ∧ ∀ (i : Nat) c, ls[i]? = some c → ∀ (j : Nat) v, c.cells[j]? = some v → wo.cell? ⟨bl, ol + i * 4 + j, none⟩ = some v := by
        rcases hL1.at_ with h | h
        · subst h; simp at hc
        · exact h
      subst ea
      have hU := hL1.us c (List.mem_of_getElem? hc)
      obtain ⟨⟨da, dn, dc, zs⟩, nx, cp, on⟩ := c
      have d0 : wo.cell? ⟨bl, ol + i * 4, none⟩ = some (.slice da dn dc) := hcell i _ hc 0 _ rfl
      have d1 : wo.cell? ⟨bl, ol + i * 4 + 1, none⟩ = some (.int .i64 nx) := hcell i _ hc 1 _ rfl
      have d2 : wo.cell? ⟨bl, ol + i * 4 + 2, none⟩ = some (.bool cp) := hcell i _ hc 2 _ rfl
      have d3 : wo.cell? ⟨bl, ol + i * 4 + 3, none⟩ = some (.bool on) := hcell i _ hc 3 _ rfl
      have hlen : Hid (zs.length = dn) := hU.len
      have hul : Hid (Ul wo da zs) := hU.ul
      have hbare : Hid (da = none → dc = 0) := hU.bare
      have hfew : dn ≤ 1048576 := hU.few
      clear hL1 hU hcell hc
      obtain ⟨O, hO⟩ : ∃ O, O = Obj.cells #[.slice da dn dc, .int .i64 nx, .bool cp, .bool on] 52 (0, 0) := ⟨_, rfl⟩
      have HU : Hid (Ul ((wo.alloc O).alloc (.cells #[] 22 (0, 0))) da zs) := hul.out.below (((Below.refl _ _).alloc (Nat.le_refl _) _).alloc (by simp) _)
      have HE : Hid (((wo.alloc O).alloc (.cells #[] 22 (0, 0))).ownsRow (wo.alloc O).heap.size 22 1 (.slice (some ⟨wo.heap.size + 1, 0, none⟩) 0 0) 0 []) := empty_at wo O
      have HS : Hid ((wo.alloc O).heap.size ≤ ((wo.alloc O).alloc (.cells #[] 22 (0, 0))).heap.size) := empty_le wo O
      have H2 : Hid (dn ≤ 2097152) := (by omega : dn ≤ 2097152)
      subst hO
      go_wp2_with (first | (at_builtin; refine wpList_append_ul rfl (.tmp 41) (.tmp 43) rfl (wo.alloc (Obj.cells #[.slice da dn dc, .int .i64 nx, .bool cp, .bool on] 52 (0, 0))).heap.size _ 0 [] rfl HE.out da dn dc zs rfl hlen.out HU.out hbare.out (by decide) H2.out HS.out ?_; intro v2 w2 hown hgrow hnil _; obtain ⟨g, gc, hv, HR, HB2⟩ := given_made rfl hown hgrow hnil; subst hv; clear hown hgrow hnil) | (go_at_call 24; refine (push_nil _ _).mono ?_; rintro e w3 ⟨rfl, hw⟩; have hw := hw.symm; subst hw))
      obtain ⟨hO2, hB3⟩ := o_there HB2.out
      have hgo : g ≠ wo.heap.size := fun e => by have := (HR.out.lt g rfl).1; simp at this; omega
      have HR' : w2.ownsRow wo.heap.size 22 1 (.slice (some ⟨g, 0, none⟩) dn gc) dn (uvals zs) := own_base HR.out (by simp)
      have HG0 : Hid (Gv w2 w2 wo.heap.size g dn gc zs 0) := ⟨zs, hlen.out, fun _ _ => rfl, HR', Stp.of_below _ (Below.refl _ _)⟩
      have HO2 : Hid (w2.heap[wo.heap.size]? = some (Obj.cells #[.slice da dn dc, .int .i64 nx, .bool cp, .bool on] 52 (0, 0)) ∧ Below wo.heap.size wo w2 ∧ g ≠ wo.heap.size) := ⟨hO2, hB3, hgo⟩
      clear d0 d1 d2 d3 hO2 HU HE HS HR HB2 HR' hgo hB3 hw
      go_loopw [14] (fun t W => ∃ k : Nat, k ≤ dn ∧ t = .int .i64 k ∧ Gv w2 W wo.heap.size g dn gc zs k) (fun t _ => dn - (intOf t).toNat)
      case atStart => exact ⟨0, by omega, rfl, HG0.out⟩
      case round =>
        obtain ⟨k, hk', rfl, hG⟩ := hrel
        have k0 : (0 : Int) ≤ k := by omega
        by_cases hkd : k < dn
        · have hkk : (k : Int) < dn := by omega
          obtain ⟨x0, z0⟩ := hG.cell hkd
          obtain ⟨hBW, hOW⟩ := gv_facts hG HO2.out.2.1 HO2.out.1 HO2.out.2.2
          obtain ⟨bd, od, rfl, x1⟩ := ul_some (hul.out.below hBW) k (by rw [hlen.out]; exact hkd)
          obtain ⟨c0, c1, c2, c3⟩ := o_cells hOW
          have HG : Hid (Gv w2 wr wo.heap.size g dn gc zs k) := hG
          clear hG hBW hOW c1 c2 c3
          go_wp2_with fail
          go_quiet (fail)
          go_wp2_with fail
          case roundEnd => exact ⟨⟨k + 1, by omega, rfl, (HG.out.drewN nq).step _ hkd⟩, by simp [intOf]; omega⟩
        · have hkk : ¬ (k : Int) < dn := by omega
          obtain rfl : k = dn := by omega
          obtain ⟨hBW, hOW⟩ := gv_facts hG HO2.out.2.1 HO2.out.1 HO2.out.2.2
          obtain ⟨c0, c1, c2, c3⟩ := o_cells hOW
          have HBW : Hid (Below wo.heap.size wo wr) := hBW
          obtain ⟨w5, hw5⟩ : ∃ w5, w5 = wr := ⟨wr, rfl⟩
          subst hw5
          clear hG hBW hOW
          go_upto_if 85 with fail
          go_cut [7, 9, 10, 40, 85] (fun s l t x y wx => s = .pointer none ∧ l = .pointer none ∧ t = .pointer none ∧ wx = w5)
          case first =>
            cases cp <;> cases on
            all_goals
              go_wp2_with (first | (go_at_call 25; refine (copy_nil _).mono ?_; rintro e w3 ⟨rfl, hw⟩; have hw := hw.symm; subst hw) | (go_at_call 26; refine (rcopy_nil _).mono ?_; rintro e w3 ⟨rfl, hw⟩; have hw := hw.symm; subst hw))
              go_meet
              case rel => exact ⟨rfl, rfl, rfl, rfl⟩
          case rest =>
            obtain ⟨rfl, rfl, rfl, hwc⟩ := hcut
            have hwc := hwc.symm
            subst hwc
            go_wp2_with fail
            go_loopw [16] (fun t W => ∃ k : Nat, k ≤ 100 ∧ t = .int .i64 k ∧ W = w5) (fun t _ => 100 - (intOf t).toNat)
            case atStart => exact ⟨0, by omega, rfl, rfl⟩
            case round =>
              obtain ⟨q, hq, rfl, hwr⟩ := hrel
              have hwr := hwr.symm
              subst hwr
              have q0 : (0 : Int) ≤ q := by omega
              by_cases hqx : (q : Int) < nx
              · by_cases hq1 : q < 100
                · have hq1' : (q : Int) < 100 := by omega
                  go_wp2_with (first | (go_at_call 27; refine (next_nil _).mono ?_; rintro e w3 ⟨rfl, hw⟩; have hw := hw.symm; subst hw) | (go_at_call 28; refine (rnext_nil _).mono ?_; rintro e w3 ⟨rfl, hw⟩; have hw := hw.symm; subst hw))
                  all_goals first | exact ⟨⟨q + 1, by omega, rfl, rfl⟩, by simp [intOf]; omega⟩ | exact ⟨⟨q + 1, by omega, rfl, trivial⟩, by simp [intOf]; omega⟩
                · have hq1' : ¬ (q : Int) < 100 := by omega
                  go_wp2_with (first | (go_at_call 29; refine (left_nil _).mono ?_; rintro e w3 ⟨rfl, hw⟩; have hw := hw.symm; subst hw))
                  exact ⟨⟨i + 1, by omega, rfl, rfl, rfl, rfl, HB.out.trans (HBW.out.mono HB.out.size)⟩, by simp [intOf]; omega⟩
              · go_wp2_with (first | (go_at_call 29; refine (left_nil _).mono ?_; rintro e w3 ⟨rfl, hw⟩; have hw := hw.symm; subst hw))
                exact ⟨⟨i + 1, by omega, rfl, rfl, rfl, rfl, HB.out.trans (HBW.out.mono HB.out.size)⟩, by simp [intOf]; omega⟩
    · by_cases hin' : i < n
      · have hii : (i : Int) < n := by omega
        have hic' : ¬ (i : Int) < 100 := by omega
        go_wp2_with fail
        go_ret
        exact ⟨rfl, HB.out⟩
      · have hii : ¬ (i : Int) < n := by omega
        go_wp2_with fail
        go_ret
        exact ⟨rfl, HB.out⟩
end Go.Proofs.Ytfolfeaednmcoaa
