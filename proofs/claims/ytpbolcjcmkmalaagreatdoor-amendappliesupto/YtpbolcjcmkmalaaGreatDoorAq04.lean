import Derived.Test.YtpbolcjcmkmalaaGreatDoorAq00
import Derived.Test.YtpbolcjcmkmalaaGreatDoorAq02
import Derived.Below
import Derived.Outline
import Derived.Deep.QuietTactic
import Derived.BigQuiet
import Derived.Test.YtpbolcjcmkmalaaGreatDoorAq03
import Derived.Test.YtpbolcjcmkmalaaGreatDoorShelfR
import Derived.Test.YtpbolcjcmkmalaaGreatDoorAq01
set_option maxHeartbeats 20000000
set_option maxRecDepth 20000
namespace Go.Proofs.YtpbolcjcmkmalaaGreatDoor
open Go.RowKit Go.Extern.Stop Go.Stop Go.Extern
theorem JE{p:Prop}(h:p):Hid p:=h
def gi:Nat→Nat
 |0=>1|1=>0|2=>2|3=>3|4=>4|5=>5|6=>6|7=>7|8=>8|9=>9|10=>10|n=>n
theorem aT{i:Nat}(h:i<11):gi i<11:=by
 have h:i=0∨i=1∨i=2∨i=3∨i=4∨i=5∨i=6∨i=7∨i=8∨i=9∨i=10:=by omega
 rcases h with rfl|rfl|rfl|rfl|rfl|rfl|rfl|rfl|rfl|rfl|rfl<;>decide
structure Laid(w:World)(p:Nat→Addr):Prop where
 cell:∀i,i<11→w.cell? ⟨gi i,0,none⟩=some (.iface 214 (.pointer (some (p i))))
 ne:∀i j,i<11→j<11→i≠j→p i≠p j
 blk:∀i,i<11→∃c t,w.heap[(p i).block]?=some (.cells c t (0,0))
 typ:w.cell? ⟨11,0,none⟩=some (.iface 140 (.agg #[.pointer (some ⟨15,31,none⟩)]))
theorem Laid.lt{w:World}{p:Nat→Addr}(h:Laid w p):11<w.heap.size:=by
 rcases Nat.lt_or_ge 11 w.heap.size with k|k
 ·exact k
 ·have:=h.typ;simp[World.cell?,Array.getElem?_eq_none k] at this
theorem Laid.below{w w':World}{p:Nat→Addr}(h:Laid w p)(hb:Below w.heap.size w w'):Laid w' p:=by
 have hl:=h.lt
 refine⟨fun i hi=>?_,h.ne,fun i hi=>?_,?_⟩
 ·rw[hb.cell (p:=⟨gi i,0,none⟩) (show gi i<_ by have:=aT hi;omega)];exact h.cell i hi
 ·obtain⟨c,t,hc⟩:=h.blk i hi
  have hlt:(p i).block<w.heap.size:=by
   rcases Nat.lt_or_ge (p i).block w.heap.size with k|k
   ·exact k
   ·simp[Array.getElem?_eq_none k] at hc
  exact⟨c,t,by rw[hb.block _ hlt];exact hc⟩
 ·rw[hb.cell (p:=⟨11,0,none⟩) hl];exact h.typ
theorem Laid.alloc{w:World}{p:Nat→Addr}(h:Laid w p)(o:Obj):Laid (w.alloc o) p:=
 h.below ((Below.refl _ _).alloc (nR _) o)
theorem TM(e t:Addr)(w:World)(p:Nat→Addr)(L:Laid w p):
 Calls Tryz.prog 24 #[.iface 214 (.pointer (some e)),.iface 65 (.pointer (some t))] w fun ev w'=>ev=.returned (.bool false)∧Below w.heap.size w w':=by
 refine(XP e t w L.typ).mono ?_
 rintro ev w' ⟨rfl,rfl⟩
 exact⟨rfl,((bA _ _).alloc (by simp) _).alloc (by simp;omega) _⟩
theorem dJ(p:Nat→Addr)(w:World)(i:Nat)(hi:i<11):
 (w.alloc (.cells #[.iface 214 (.pointer (some (p 0))),.iface 214 (.pointer (some (p 1))),.iface 214 (.pointer (some (p 2))),.iface 214 (.pointer (some (p 3))),.iface 214 (.pointer (some (p 4))),.iface 214 (.pointer (some (p 5))),.iface 214 (.pointer (some (p 6))),.iface 214 (.pointer (some (p 7))),.iface 214 (.pointer (some (p 8))),.iface 214 (.pointer (some (p 9))),.iface 214 (.pointer (some (p 10)))] 31)).cell? ⟨w.heap.size,i,none⟩=some (.iface 214 (.pointer (some (p i)))):=by
 have h:i=0∨i=1∨i=2∨i=3∨i=4∨i=5∨i=6∨i=7∨i=8∨i=9∨i=10:=by omega
 rcases h with rfl|rfl|rfl|rfl|rfl|rfl|rfl|rfl|rfl|rfl|rfl<;>simp
theorem eO(w:World):Calls Tryz.prog 14 #[.nilIface] w fun e w'=>e=.returned (.tuple #[.int .i64 0,.int .i64 (-1)])∧w'=w:=by
 go_enter Tryz.func14,Tryz.ntmps14
 go_wp2
 go_ret2
 exact⟨rfl,rfl⟩
theorem WM(k:Nat)(hk:k<11)(p:Nat→Addr)(w:World)(L:Laid w p):
 Calls Tryz.prog 14 #[.iface 214 (.pointer (some (p k)))] w fun e w'=>e=.returned (.tuple #[.int .i64 (k+1),.int .i64 (-1)])∧Below w.heap.size w w':=by
 have La:=L.alloc (.cells #[.pointer none] 52)
 go_enter Tryz.func14,Tryz.ntmps14
 go_wp2_with fail
 refine(TM _ _ _ p La).mono ?_
 rintro e w1 ⟨rfl,hb1⟩
 have L1:=La.below hb1
 have c0:w1.cell? ⟨1,0,none⟩=some (.iface 214 (.pointer (some (p 0)))):=L1.cell 0 (by omega)
 have c1:w1.cell? ⟨0,0,none⟩=some (.iface 214 (.pointer (some (p 1)))):=L1.cell 1 (by omega)
 have c2:w1.cell? ⟨2,0,none⟩=some (.iface 214 (.pointer (some (p 2)))):=L1.cell 2 (by omega)
 have c3:w1.cell? ⟨3,0,none⟩=some (.iface 214 (.pointer (some (p 3)))):=L1.cell 3 (by omega)
 have c4:w1.cell? ⟨4,0,none⟩=some (.iface 214 (.pointer (some (p 4)))):=L1.cell 4 (by omega)
 have c5:w1.cell? ⟨5,0,none⟩=some (.iface 214 (.pointer (some (p 5)))):=L1.cell 5 (by omega)
 have c6:w1.cell? ⟨6,0,none⟩=some (.iface 214 (.pointer (some (p 6)))):=L1.cell 6 (by omega)
 have c7:w1.cell? ⟨7,0,none⟩=some (.iface 214 (.pointer (some (p 7)))):=L1.cell 7 (by omega)
 have c8:w1.cell? ⟨8,0,none⟩=some (.iface 214 (.pointer (some (p 8)))):=L1.cell 8 (by omega)
 have c9:w1.cell? ⟨9,0,none⟩=some (.iface 214 (.pointer (some (p 9)))):=L1.cell 9 (by omega)
 have c10:w1.cell? ⟨10,0,none⟩=some (.iface 214 (.pointer (some (p 10)))):=L1.cell 10 (by omega)
 have hS:=dJ p w1
 have L2:=L1.alloc (.cells #[.iface 214 (.pointer (some (p 0))),.iface 214 (.pointer (some (p 1))),.iface 214 (.pointer (some (p 2))),.iface 214 (.pointer (some (p 3))),.iface 214 (.pointer (some (p 4))),.iface 214 (.pointer (some (p 5))),.iface 214 (.pointer (some (p 6))),.iface 214 (.pointer (some (p 7))),.iface 214 (.pointer (some (p 8))),.iface 214 (.pointer (some (p 9))),.iface 214 (.pointer (some (p 10)))] 31)
 have hfin:Below w.heap.size w (w1.alloc (.cells #[.iface 214 (.pointer (some (p 0))),.iface 214 (.pointer (some (p 1))),.iface 214 (.pointer (some (p 2))),.iface 214 (.pointer (some (p 3))),.iface 214 (.pointer (some (p 4))),.iface 214 (.pointer (some (p 5))),.iface 214 (.pointer (some (p 6))),.iface 214 (.pointer (some (p 7))),.iface 214 (.pointer (some (p 8))),.iface 214 (.pointer (some (p 9))),.iface 214 (.pointer (some (p 10)))] 31)):=
  (((bA _ _).trans (hb1.mono (by simp))).alloc (by have:=hb1.size;simp at this;omega) _)
 have HF:=JE hfin
 have HL:=JE L2
 clear hfin L2 hb1 L1 La
 go_wp2_with fail
 clear c0 c1 c2 c3 c4 c5 c6 c7 c8 c9 c10
 go_loop [3,29] (fun a t=>a=.int .i64 (-1)∧∃i:Nat,i≤k∧t=.int .i64 i) (fun _ t=>11 - (intOf t).toNat)
 case atStart=>exact⟨rfl,0,Nat.zero_le _,rfl⟩
 case round=>
  obtain⟨rfl,i,hik,rfl⟩:=hrel
  have hi:i<11:=by omega
  have hSi:=hS i hi
  by_cases hlt:i<k
  ·obtain⟨ca,ta,hca⟩:=HL.out.blk k hk
   obtain⟨cb,tb,hcb⟩:=HL.out.blk i hi
   have hne:=HL.out.ne k i hk hi (by omega)
   go_wp2_with fail
   refine(wO (p k) (p i) ca cb ta tb _ hne hca hcb).mono ?_
   rintro e w' ⟨rfl,rfl⟩
   go_wp2
   go_round
   case rel=>exact⟨rfl,i+1,by omega,by go_num⟩
   case measure=>simp[intOf];omega
  ·obtain rfl:i=k:=by omega
   go_wp2_with fail
   refine(jQ (p i) _).mono ?_
   rintro e w' ⟨rfl,rfl⟩
   go_wp2
   go_ret2
   exact⟨rfl,HF.out⟩
theorem FA{B:Nat}{a w:World}(h:Below B a w):∀n,Below B a (w.drewN n):=fun _=>⟨h.os,h.tape,h.output,h.size,h.block⟩
def fD(a:Addr):Value:=.iface 214 (.pointer (some a))
noncomputable def tx (r:ByteArray):ByteArray:=if DP r 32=true then r.extract 1 r.size else r
theorem LB(r:ByteArray):r.toList.isEmpty=decide (r.size=0):=by
 rw[Bool.eq_iff_iff,List.isEmpty_iff,decide_eq_true_eq,Lib.toList_data]
 constructor
 ·intro h;rw[←oA];show r.data.toList.length=0;rw[h];rfl
 ·intro h;exact List.eq_nil_of_length_eq_zero (by rw[←oA] at h;exact h)
end Go.Proofs.YtpbolcjcmkmalaaGreatDoor
