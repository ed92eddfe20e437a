import Derived.Test.YtbnllobofndckaaRl
import Derived.Test.YtbnllobofndckaaDec
import Derived.Deep.DeepCutAuto
namespace Go.Proofs.Ytbnllobofndckaa
open Go.RowKit
set_option linter.unusedVariables false
set_option linter.unusedSimpArgs false
theorem own_len (a : Option Addr) (n m c : Nat) : (Value.slice a n c).ownBlock = (Value.slice a m c).ownBlock := by cases a <;> rfl
theorem row_slc5 {bs : Nat} {w : World} {v : Value} {n : Nat} {xs : List Value} (h : w.ownsRow bs 5 1 v n xs) : ∃ a c, v = .slice a n c := by
  rcases h.2 with ⟨e, h1⟩ | ⟨g, cap, cur, e, _⟩
  · exact ⟨none, 0, by rw [e, h1]⟩
  · exact ⟨_, _, e⟩
/-- What is taken. -/
theorem Rst.took {os bs : Nat} {w w' : World} {rb : Nat} {l ky : List Int} {ra : Option Addr} {rc : Nat} {kv : Value} {u : ByteArray} {s k : Int} {vv : Value} (h : Rst os bs w rb l ky ra rc kv u s k vv) {n : Nat} (hn : n ≤ l.length) (up : Upd (fun j => j = rb) w w') : Arg w' ra n rc (l.take n) := by
  have ha : Arg w ra n rc (l.take n) := h.arg.hi hn
  by_cases hl : l = []
  · obtain ⟨a1, a2, a3, _⟩ := ha
    exact ⟨a1, a2, a3, .inl (by rw [hl]; simp)⟩
  · exact ha.upd up (fun b o e => (h.nr hl b o e).1)
theorem Rst.swell {os bs : Nat} {w : World} {rb : Nat} {l ky : List Int} {ra : Option Addr} {rc : Nat} {ak : Option Addr} {KL ck : Nat} {u : ByteArray} {s k : Int} {vv : Value} (h : Rst os bs w rb l ky ra rc (.slice ak KL ck) u s k vv) (hKL : ky.length = KL) {cm ln : Nat} (hcm : cm ≤ KL) (hln : ln ≤ l.length) (hb : cm + ln ≤ 140737488355328)
    {w3 : World} (R3 : Rst os bs w3 rb (l.drop ln) ky (cutA ra rc ln) (rc - ln) (.slice ak KL ck) u s k vv) (U3 : Upd (fun j => j = rb) w w3) :
    ∃ a4 n4 c4 w4, (Builtin.append_ #[23, 23] 23 #[.slice ak cm ck, .slice ra ln rc]).run Try.prog w3 = .ok (.slice a4 n4 c4) w4 ∧ w4.cell? ⟨rb, 1, none⟩ = some (.slice ak KL ck) ∧ w4.frozen? ⟨rb, 1, none⟩ = false ∧
      Hid (Rst os bs (w4.setCell ⟨rb, 1, none⟩ (.slice a4 n4 c4)) rb (l.drop ln) (ky.take cm ++ l.take ln) (cutA ra rc ln) (rc - ln) (.slice a4 n4 c4) u s k vv ∧ Upd (fun j => j = rb ∨ (Value.slice ak KL ck).ownBlock = some j) w (w4.setCell ⟨rb, 1, none⟩ (.slice a4 n4 c4))) := by
  have A3 : Arg w3 ra ln rc (l.take ln) := h.took hln U3
  have hrow := R3.row
  rw [hKL] at hrow
  obtain ⟨v4, w4, hr4, ho4, hg4, hl4⟩ := row_grow5 (row_cut5 hrow hcm) A3 (Nat.le_trans R3.ge (Nat.le_of_lt R3.blk.lt)) hb
  obtain ⟨a4, cc4, rfl⟩ := row_slc5 ho4
  rw [own_len ak cm KL ck] at hg4 hl4
  have e : (ky.take cm ++ l.take ln).length = cm + ln := by rw [List.length_append, List.length_take, List.length_take, hKL]; omega
  obtain ⟨P1, P2, P3⟩ := R3.grow (ks := ky.take cm ++ l.take ln) (by rw [e]; exact ho4) hg4 hl4
  exact ⟨a4, _, cc4, w4, hr4, P3.cell1 1 _ rfl, P3.frozen 1, P1, Upd.then (U3.mono (fun _ _ h => .inl h)) P2 (fun _ _ h => h)⟩
/-- What was read last is kept. -/
theorem Rst.keep {os bs : Nat} {w : World} {rb : Nat} {l ky : List Int} {ra : Option Addr} {rc : Nat} {kv : Value} {u : ByteArray} {s k : Int} {vv : Value} (h : Rst os bs w rb l ky ra rc kv u s k vv) (u' : ByteArray) (s' k' : Int) (vv' : Value) :
    Rst os bs ((((w.setCell ⟨rb, 2, none⟩ (.string u')).setCell ⟨rb, 3, none⟩ (.int .u64 s')).setCell ⟨rb, 4, none⟩ (.int .i64 k')).setCell ⟨rb, 5, none⟩ vv') rb l ky ra rc kv u' s' k' vv' ∧
    Upd (fun j => j = rb) w ((((w.setCell ⟨rb, 2, none⟩ (.string u')).setCell ⟨rb, 3, none⟩ (.int .u64 s')).setCell ⟨rb, 4, none⟩ (.int .i64 k')).setCell ⟨rb, 5, none⟩ vv') := by
  have up : Upd (fun j => j = rb) w ((((w.setCell ⟨rb, 2, none⟩ (.string u')).setCell ⟨rb, 3, none⟩ (.int .u64 s')).setCell ⟨rb, 4, none⟩ (.int .i64 k')).setCell ⟨rb, 5, none⟩ vv') :=
    ((((Upd.refl (fun j => j = rb) w).setCell (p := ⟨rb, 2, none⟩) (fun _ => rfl) _).setCell (p := ⟨rb, 3, none⟩) (fun _ => rfl) _).setCell (p := ⟨rb, 4, none⟩) (fun _ => rfl) _).setCell (p := ⟨rb, 5, none⟩) (fun _ => rfl) _
  refine ⟨⟨(((h.blk.set 2 _).set 3 _).set 4 _).set 5 _, ?_, h.cap, row_upd5 h.row up (fun j hj e => h.nk (by rw [← e]; exact hj)), h.nr, h.nk, h.ge, h.old, h.osle⟩, up⟩
  by_cases hl : l = []
  · obtain ⟨a1, a2, a3, _⟩ := h.arg
    exact ⟨a1, a2, a3, .inl hl⟩
  · exact h.arg.upd up (fun b o e => (h.nr hl b o e).1)
/-- A key that is read from its bytes. -/
theorem key_dec {bs : Nat} {w : World} {v : Value} {K : List Int} (h : w.ownsRow bs 5 1 v K.length (bc K)) (hbd : ∀ n ∈ K, 0 ≤ n ∧ n < 256) {m : Nat} (hm : K.length = m + 8) (hmm : m + 8 ≤ 140737488351232) (hc : checkV (decU m K) (decN m K / 256) (decN m K % 256) = 0) :
    Calls Try.prog 82 #[v] w fun e w' => e = .returned (.tuple #[.agg #[.string (decU m K), .int .u64 (decN m K / 256), .int .i64 (decN m K % 256)], .int .i64 0]) ∧ Below w.heap.size w w' := by
  have hlt := World.ownsRow.lt h
  have hce := fun g hg => World.ownsRow.cells h (g := g) hg
  rcases h.2 with ⟨rfl, h0⟩ | ⟨g, cap, cur, rfl, _, _, hnc, _⟩
  · omega
  · have h1 := cdecode_long g 0 m cap K w hm hbd hmm (by omega) (hlt g rfl).2 (fun j hj => by
      have h2 := hce g rfl j (.int .u8 K[j]) (by simp [bc, hj])
      rw [add_at] at h2
      exact h2)
    rw [if_pos hc] at h1
    rw [hm]
    exact h1
set_option maxRecDepth 100000 in
set_option maxHeartbeats 4000000 in
theorem next_ok {os bs : Nat} {w : World} {rb : Nat} {l ky : List Int} {ra : Option Addr} {rc : Nat} {kv : Value} {u : ByteArray} {s k : Int} {vv : Value} (h : Rst os bs w rb l ky ra rc kv u s k vv) {cm ln vn n1 n2 n3 : Nat}
    (hr : ∀ i, i < 3 → rvG (l.drop (o3 n1 n2 n3 i)) 0 0 = (((ptN cm ln vn i : Nat) : Int), ((ptN n1 n2 n3 i : Nat) : Int), 0)) (hn : ∀ i, i < 3 → o3 n1 n2 n3 i + ptN n1 n2 n3 i ≤ l.length)
    (hcm : cm ≤ ky.length) (hkl : ky.length ≤ 1099511627776) (hll : l.length ≤ 1099511627776) (hln : o3 n1 n2 n3 3 + ln + vn ≤ l.length) (hvn : vn ≤ 16384)
    (hkb : ∀ n ∈ ky, 0 ≤ n ∧ n < 256) {K2 : List Int} (hK2 : K2 = ky.take cm ++ (l.drop (o3 n1 n2 n3 3)).take ln) {m2 : Nat} (hm2 : K2.length = m2 + 8) (hc2 : checkV (decU m2 K2) (decN m2 K2 / 256) (decN m2 K2 % 256) = 0) :
    Calls Try.prog 54 #[ptr rb] w fun e w' => e = .returned (.int .i64 cm) ∧ ∃ kv' rx cx ry cy, Rst os bs w' rb (l.drop (o3 n1 n2 n3 3 + ln + vn)) K2 ry cy kv' (decU m2 K2) (decN m2 K2 / 256) (decN m2 K2 % 256) (.slice rx vn cx) ∧ Arg w' rx vn cx ((l.drop (o3 n1 n2 n3 3 + ln)).take vn) ∧ Upd (fun j => j = rb ∨ kv.ownBlock = some j) w w' := by
  have c0 := h.blk.cell1 0 _ rfl
  have c1 := h.blk.cell1 1 _ rfl
  have HKb : Hid (∀ n ∈ K2, 0 ≤ n ∧ n < 256) := fun n hn => by
    rw [hK2] at hn
    rcases List.mem_append.1 hn with hn | hn
    · exact hkb n (List.mem_of_mem_take hn)
    · exact h.arg.2.1 n (List.mem_of_mem_drop (List.mem_of_mem_take hn))
  have HK2 : Hid (K2 = ky.take cm ++ (l.drop (o3 n1 n2 n3 3)).take ln) := hK2
  have hm2l : m2 + 8 ≤ 140737488351232 := by rw [← hm2, hK2, List.length_append, List.length_take, List.length_take]; omega
  have HDk : Hid (∀ (W : World) (v : Value), W.ownsRow bs 5 1 v K2.length (bc K2) → Calls Try.prog 82 #[v] W fun e w' => e = .returned (.tuple #[.agg #[.string (decU m2 K2), .int .u64 (decN m2 K2 / 256), .int .i64 (decN m2 K2 % 256)], .int .i64 0]) ∧ Below W.heap.size W w') := fun W v hv => key_dec hv HKb.out hm2 hm2l hc2
  have HY : Hid (∀ W, Calls Try.prog 83 #[.bool true] W fun e w' => e = .returned (.tuple #[]) ∧ w' = W) := fun W => must_yes W
  clear hK2 hm2 hc2 hkb hm2l HKb
  have HVn : Hid (vn ≤ ((l.drop (o3 n1 n2 n3 3)).drop ln).length) := by show _ ≤ _; rw [List.length_drop, List.length_drop]; omega
  have HLn : Hid (ln ≤ (l.drop (o3 n1 n2 n3 3)).length) := by show _ ≤ _; rw [List.length_drop]; omega
  replace hln : ln ≤ l.length := by omega
  obtain ⟨L, hL⟩ : ∃ L, Hid (l.length = L) := ⟨_, rfl⟩
  obtain ⟨KL, hKL⟩ : ∃ KL, Hid (ky.length = KL) := ⟨_, rfl⟩
  obtain ⟨ak, ck, hkv⟩ : ∃ ak ck, kv = .slice ak KL ck := by
    rw [← hKL.out]
    rcases h.row.2 with ⟨e, h1⟩ | ⟨g, cap, cur, e, _⟩
    · exact ⟨none, 0, by rw [e, h1]⟩
    · exact ⟨_, _, e⟩
  subst hkv
  rw [hL.out] at c0 hll hln
  rw [hKL.out] at hcm hkl
  have HS : Hid (Rst os bs w rb l ky ra rc (.slice ak KL ck) u s k vv) := h
  have HR : Hid (∀ i, i < 3 → rvG (l.drop (o3 n1 n2 n3 i)) 0 0 = (((ptN cm ln vn i : Nat) : Int), ((ptN n1 n2 n3 i : Nat) : Int), 0)) := hr
  have HN : Hid (∀ i, i < 3 → o3 n1 n2 n3 i + ptN n1 n2 n3 i ≤ l.length) := hn
  have hlt : rb < w.heap.size := h.blk.lt
  have hne : ¬ w.heap.size = rb := by omega
  have hne' : ¬ rb = w.heap.size := by omega
  clear h hr hn
  go_enter Try.func54, Try.ntmps54
  go_wp2
  first | go_quiet (fail) | go_big_quiet (fail)
  go_wp2
  have u0 : Upd (fun j => j = rb) w ((w.alloc (.cells #[.int .i64 0, .int .i64 0, .int .i64 0] 120)).drewN nq) := by
    have h1 := (Upd.refl (fun j => j = rb) w).alloc (.cells #[.int .i64 0, .int .i64 0, .int .i64 0] 120)
    exact ⟨h1.os, h1.tape, h1.output, h1.size, h1.block⟩
  go_loopw [22] (fun i wr => ∃ j : Nat, j ≤ 3 ∧ i = .int .i64 j ∧ ∃ ra' rc', Hid (Rst os bs wr rb (l.drop (o3 n1 n2 n3 j)) ky ra' rc' (.slice ak KL ck) u s k vv) ∧ Hid (Blk wr w.heap.size 120 (l3 cm ln vn j)) ∧ Hid (Upd (fun j => j = rb) w wr)) (fun i _ => ((3 : Int) - intOf i).toNat)
  case atStart =>
    refine ⟨0, by omega, rfl, ra, rc, ?_, ?_, u0⟩
    · have hb : Below w.heap.size w ((w.alloc (.cells #[.int .i64 0, .int .i64 0, .int .i64 0] 120)).drewN nq) := by
        have h1 := (Below.refl w.heap.size w).alloc (Nat.le_refl _) (.cells #[.int .i64 0, .int .i64 0, .int .i64 0] 120)
        exact h1.trans ⟨rfl, rfl, rfl, Nat.le_refl _, fun _ _ => rfl⟩
      exact HS.out.below hb
    · exact Blk.new w 120 (l3 cm ln vn 0)
  case round =>
    obtain ⟨j, hj, rfl, ra', rc', HT, HB, HU⟩ := hrel
    rcases Nat.lt_or_ge j 3 with hj3 | hj3
    · have hjz : (j : Int) < 3 := by omega
      obtain ⟨x, hx⟩ : ∃ x, Hid (ptN cm ln vn j = x) := ⟨_, rfl⟩
      obtain ⟨y, hy⟩ : ∃ y, Hid (ptN n1 n2 n3 j = y) := ⟨_, rfl⟩
      obtain ⟨m, hm⟩ : ∃ m, Hid (ptN KL L 16384 j = m) := ⟨_, rfl⟩
      have hml : m ≤ 1099511627776 := by rw [← hm.out]; exact ptN_le _ _ _ _ _ hkl hll (by omega)
      have hxm : x ≤ m := by
        rw [← hx.out, ← hm.out]
        clear hx hy hm HT HB HU
        rcases j with _ | _ | _ | j
        · exact hcm
        · exact hln
        · exact hvn
        · omega
      have hidx : ∀ W, (Instr.index 120 (.agg #[.int .i64 KL, .int .i64 L, .int .i64 16384]) (.int .i64 j)).run Try.prog W = .ok (.int .i64 m) W := fun W => run_index3 _ _ _ j _ (by have := ptN_get KL L 16384 j hj3; rw [hm.out] at this; exact this) W
      have hrv := HR.out j hj3
      have hyl := HN.out j hj3
      have HV : Hid (Calls Try.prog 80 #[ptr rb, .int .i64 m] wr fun e w' => e = .returned (.int .i64 x) ∧ Rst os bs w' rb (l.drop (o3 n1 n2 n3 (j + 1))) ky (cutA ra' rc' y) (rc' - y) (.slice ak KL ck) u s k vv ∧ Upd (fun j => j = rb) wr w') := by
        have h1 := varint_yes HT.out (v := x) (n := y) (by rw [hrv, hx.out, hy.out]) (by rw [List.length_drop]; rw [hy.out] at hyl; omega) hml hxm
        rw [List.drop_drop, ← hy.out, ← o3_step _ _ _ _ hj3, hy.out] at h1
        exact h1
      have hltw : w.heap.size < wr.heap.size := HB.out.lt
      obtain ⟨cv, hcv⟩ : ∃ cv, Hid ((l3 cm ln vn j)[j]? = some cv) := ⟨_, List.getElem?_eq_getElem (show j < (l3 cm ln vn j).length from hj3)⟩
      clear hrv hyl
      go_wp2_with (go_at_call 80; refine HV.out.mono ?_; rintro e w1 ⟨rfl, hs1, hu1⟩; have hs2 : Hid _ := hs1; have hu2 : Hid _ := hu1; have hf1 : w1.frozen? ⟨w.heap.size, j, none⟩ = false := (HB.out.upd hu1 (by omega)).frozen j; have hc1 : w1.cell? ⟨w.heap.size, j, none⟩ = some cv := (HB.out.upd hu1 (by omega)).cell1 j cv hcv.out; clear hs1 hu1)
      go_roundw
      case rel =>
        have up : Upd (fun i => i = w.heap.size) w1 (w1.setCell ⟨w.heap.size, j, none⟩ (.int .i64 x)) := (Upd.refl (fun i => i = w.heap.size) w1).setCell (p := ⟨w.heap.size, j, none⟩) (fun _ => rfl) _
        refine ⟨j + 1, by omega, by go_num, _, _, hs2.out.upd up hne' (fun hl => arg_l3 (HB.out.upd hu2.out (by omega)) hs2.out.arg hl) ?_, ?_, ?_⟩
        · intro i hi hb
          have := (World.ownsRow.lt HS.out.row i hi).2
          omega
        · have := (HB.out.upd hu2.out (by omega)).set j (.int .i64 x)
          rw [← hx.out, l3_set _ _ _ _ hj3] at this
          rw [← hx.out]; exact this
        · exact (HU.out.trans hu2.out).setCell (p := ⟨w.heap.size, j, none⟩) (fun h => absurd h (Nat.lt_irrefl _)) _
      case measure => simp [intOf]; omega
    · have hjz : ¬ (j : Int) < 3 := by omega
      obtain rfl : j = 3 := by omega
      have d0 : wr.cell? ⟨w.heap.size, 0, none⟩ = some (.int .i64 cm) := HB.out.cell1 0 _ rfl
      have d1 : wr.cell? ⟨w.heap.size, 1, none⟩ = some (.int .i64 ln) := HB.out.cell1 1 _ rfl
      have d2 : wr.cell? ⟨w.heap.size, 2, none⟩ = some (.int .i64 vn) := HB.out.cell1 2 _ rfl
      clear c0 c1
      have c1 := HT.out.blk.cell1 1 _ rfl
      have c0 := HT.out.blk.cell1 0 _ rfl
      go_wp2
      first | go_quiet (fail) | go_big_quiet (fail)
      go_wp2
      obtain ⟨l1, hl1⟩ : ∃ l1, Hid (l.drop (o3 n1 n2 n3 3) = l1) := ⟨_, rfl⟩
      rw [hl1.out] at HT c0
      have hl1n : ln ≤ l1.length := by rw [← hl1.out]; exact HLn.out
      have hck : cm ≤ ck := by
        rcases HT.out.row.2 with ⟨e, h1⟩ | ⟨g, cap, cur, e, _, _, h2, _⟩
        · have := hKL.out; cases e; omega
        · have := hKL.out; cases e; omega
      have hcu := fun W => bcut_hi ak KL ck cm hck W
      go_cut [47] (fun _ wd => ∃ kv' ra2 rc2, Hid (Rst os bs wd rb (l1.drop ln) (ky.take cm ++ l1.take ln) ra2 rc2 kv' u s k vv) ∧ Hid (Upd (fun j => j = rb ∨ (Value.slice ak KL ck).ownBlock = some j) w wd))
      case first =>
        have HTd : Hid (Rst os bs (wr.drewN nq).drew rb l1 ky ra' rc' (.slice ak KL ck) u s k vv) := HT.out.below ⟨rfl, rfl, rfl, Nat.le_refl _, fun _ _ => rfl⟩
        have HSw : Hid (∀ w3, Rst os bs w3 rb (l1.drop ln) ky (cutA ra' rc' ln) (rc' - ln) (.slice ak KL ck) u s k vv → Upd (fun j => j = rb) (wr.drewN nq).drew w3 → ∃ a4 n4 c4 w4, (Builtin.append_ #[23, 23] 23 #[.slice ak cm ck, .slice ra' ln rc']).run Try.prog w3 = .ok (.slice a4 n4 c4) w4 ∧ w4.cell? ⟨rb, 1, none⟩ = some (.slice ak KL ck) ∧ w4.frozen? ⟨rb, 1, none⟩ = false ∧
            Hid (Rst os bs (w4.setCell ⟨rb, 1, none⟩ (.slice a4 n4 c4)) rb (l1.drop ln) (ky.take cm ++ l1.take ln) (cutA ra' rc' ln) (rc' - ln) (.slice a4 n4 c4) u s k vv ∧ Upd (fun j => j = rb ∨ (Value.slice ak KL ck).ownBlock = some j) w (w4.setCell ⟨rb, 1, none⟩ (.slice a4 n4 c4)))) := fun w3 R3 U3 => by
          obtain ⟨a4, n4, c4, w4, g1, g2, g3, g4⟩ := HTd.out.swell hKL.out hcm hl1n (by omega) R3 U3
          have U0 : Upd (fun j => j = rb ∨ (Value.slice ak KL ck).ownBlock = some j) w (wr.drewN nq).drew := ⟨HU.out.os, HU.out.tape, HU.out.output, HU.out.size, fun k hk hs => HU.out.block k hk (fun e => hs (.inl e))⟩
          exact ⟨a4, n4, c4, w4, g1, g2, g3, g4.out.1, Upd.then U0 g4.out.2 (fun _ _ h => h)⟩
        have HTk : Hid (Calls Try.prog 81 #[ptr rb, .int .i64 ln] (wr.drewN nq).drew fun e w' => e = .returned (.slice ra' ln rc') ∧ Rst os bs w' rb (l1.drop ln) ky (cutA ra' rc' ln) (rc' - ln) (.slice ak KL ck) u s k vv ∧ Upd (fun j => j = rb) (wr.drewN nq).drew w') := take_yes HTd.out hl1n
        clear HR HN HS HB HT HU
        go_region_law (first
          | (refine step_call81 (by rfl) (by rfl) _ _ _ (by rfl) _ _ (by rfl) (by rfl) HTk.out ?_
             rintro e w3 ⟨rfl, R3, U3⟩
             refine ⟨_, rfl, ?_⟩
             have c1' := R3.blk.cell1 1 _ rfl
             obtain ⟨a4, n4, cc4, w4, hr4, c4, f4, P4⟩ := HSw.out w3 R3 U3
             clear R3 U3)
          | (refine step_append_run (by rfl) _ _ _ _ (by rfl) (by rfl) (by rfl) (by rfl) hr4 ?_
             skip))
        all_goals
          go_wp2
          go_meet
          exact ⟨_, _, _, P4.out.1, P4.out.2⟩
      case rest =>
        obtain ⟨kv', ra2, rc2, R4, U4⟩ := hcut
        obtain ⟨U', hU'⟩ : ∃ U', Hid (decU m2 K2 = U') := ⟨_, rfl⟩
        obtain ⟨S', hS'⟩ : ∃ S', Hid (decN m2 K2 / 256 = S') := ⟨_, rfl⟩
        obtain ⟨D', hD'⟩ : ∃ D', Hid (decN m2 K2 % 256 = D') := ⟨_, rfl⟩
        rw [hU'.out, hS'.out, hD'.out] at HDk
        rw [← hl1.out, ← HK2.out] at R4
        obtain ⟨l2, hl2⟩ : ∃ l2, Hid ((l.drop (o3 n1 n2 n3 3)).drop ln = l2) := ⟨_, rfl⟩
        rw [hl2.out] at R4
        have hl2n : vn ≤ l2.length := by rw [← hl2.out]; exact HVn.out
        have c1 := R4.out.blk.cell1 1 _ rfl
        have c0 := R4.out.blk.cell1 0 _ rfl
        go_wp2_with (first
          | (go_at_call 83; refine (HY.out _).mono ?_; rintro e w1 ⟨rfl, hw⟩; have hw1 := hw.symm; subst hw1; clear hw)
          | (go_at_call 82; refine (HDk.out _ _ R4.out.row).mono ?_; rintro e w5 ⟨rfl, hb5⟩; have R5 : Hid _ := R4.out.below hb5; have U5 : Hid _ := U4.out.trans (Upd.ofBelow hb5); clear hb5))
        have HL2 : Hid (l2.drop vn = l.drop (o3 n1 n2 n3 3 + ln + vn)) := by show _ = _; rw [← hl2.out, List.drop_drop, List.drop_drop]; congr 1; omega
        have HL3 : Hid (l2 = l.drop (o3 n1 n2 n3 3 + ln)) := by show _ = _; rw [← hl2.out, List.drop_drop]
        have hbb : Below w5.heap.size w5 (w5.alloc (.cells #[.string U', .int .u64 S', .int .i64 D'] 33)).drew := ((Below.refl w5.heap.size w5).alloc (Nat.le_refl _) _).drew
        have R6 : Hid (Rst os bs (w5.alloc (.cells #[.string U', .int .u64 S', .int .i64 D'] 33)).drew rb l2 K2 ra2 rc2 kv' u s k vv) := R5.out.below hbb
        have U6 : Hid (Upd (fun j => j = rb ∨ (Value.slice ak KL ck).ownBlock = some j) w (w5.alloc (.cells #[.string U', .int .u64 S', .int .i64 D'] 33)).drew) := U5.out.trans (Upd.ofBelow hbb)
        have B6 : Hid (Blk (w5.alloc (.cells #[.string U', .int .u64 S', .int .i64 D'] 33)).drew w5.heap.size 33 [.string U', .int .u64 S', .int .i64 D']) := (Blk.new w5 33 [.string U', .int .u64 S', .int .i64 D']).drew
        have e0 := B6.out.cell1 0 _ rfl
        have e1 := B6.out.cell1 1 _ rfl
        have e2 := B6.out.cell1 2 _ rfl
        have hne5 : ¬ w5.heap.size = rb := by have := R5.out.blk.lt; omega
        have HTk : Hid (Calls Try.prog 81 #[ptr rb, .int .i64 vn] (w5.alloc (.cells #[.string U', .int .u64 S', .int .i64 D'] 33)).drew fun e w' => e = .returned (.slice ra2 vn rc2) ∧ Rst os bs w' rb (l2.drop vn) K2 (cutA ra2 rc2 vn) (rc2 - vn) kv' u s k vv ∧ Upd (fun j => j = rb) (w5.alloc (.cells #[.string U', .int .u64 S', .int .i64 D'] 33)).drew w') := take_yes R6.out hl2n
        have HTo : Hid (∀ W, Upd (fun j => j = rb) (w5.alloc (.cells #[.string U', .int .u64 S', .int .i64 D'] 33)).drew W → Arg W ra2 vn rc2 (l2.take vn)) := fun W hW => R6.out.took hl2n hW
        clear HR HN HS HB HT HU HLn c0 c1
        go_region_law (
             (refine step_call81 (by rfl) (by rfl) _ _ _ (by rfl) _ _ (by rfl) (by rfl) HTk.out ?_
              rintro e w7 ⟨rfl, R7, U7⟩
              refine ⟨_, rfl, ?_⟩
              have B7 := B6.out.upd U7 hne5
              have e0' := B7.cell1 0 _ rfl
              have e1' := B7.cell1 1 _ rfl
              have e2' := B7.cell1 2 _ rfl
              have g2 := R7.blk.cell1 2 _ rfl
              have g3 := R7.blk.cell1 3 _ rfl
              have g4 := R7.blk.cell1 4 _ rfl
              have g5 := R7.blk.cell1 5 _ rfl
              have f2 := R7.blk.frozen 2
              have f3 := R7.blk.frozen 3
              have f4 := R7.blk.frozen 4
              have f5 := R7.blk.frozen 5
              have P7 : Hid _ := R7.keep U' S' D' (.slice ra2 vn rc2)
              have U8 : Hid _ := U7
              clear R7 U7 B7))
        all_goals
          go_wp2
          go_ret
          refine ⟨rfl, kv', ra2, rc2, cutA ra2 rc2 vn, rc2 - vn, ?_, ?_, ?_⟩
          · rw [← HL2.out, hU'.out, hS'.out, hD'.out]; exact P7.out.1
          · rw [← HL3.out]; exact HTo.out _ (U8.out.trans P7.out.2)
          · exact Upd.then U6.out (U8.out.trans P7.out.2) (fun _ _ h => .inl h)
end Go.Proofs.Ytbnllobofndckaa
