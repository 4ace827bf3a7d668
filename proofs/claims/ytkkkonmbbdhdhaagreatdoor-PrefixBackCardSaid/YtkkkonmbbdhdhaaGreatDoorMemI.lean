/- In a seat with bytes: rows of ints are those of Mem. -/
import Derived.Test.YtkkkonmbbdhdhaaGreatDoorMem
